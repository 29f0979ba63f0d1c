/-
  The walks of wal.lsnBehind, wal.Frame, girderlaw05.frame and wal.frameAt: a record's frame, and the frame that stands at a place.
-/
import Derived.Test.YtgkfdakieebnmaaGreatCrcWalksJ
import Derived.Test.YtgkfdakieebnmaaGreatCloneJ
import Derived.Deep.RegionHeld3
import Derived.Test.YtgkfdakieebnmaaGreatRepeatJ
import Derived.Lib.FrozenHead
import Derived.Lib.ConvBytes
import Derived.Deep.AppendLies
import Derived.Deep.RegionLaw
import Derived.OwnWalk
import Derived.Deep.LoopGhost
import Derived.Deep.Draws
set_option linter.unusedVariables false
set_option linter.unusedSimpArgs false
namespace Go.Proofs.YtgkfdakieebnmaaGreat
open Go.RowKit

def frameL (a : Nat) (s : List UInt8) : List UInt8 := putL s.length 4 ++ putL (crcSum 0 (putL a 8 ++ s)) 4 ++ s ++ putL s.length 4

def frameB (a : Nat) (s : ByteArray) : ByteArray := ⟨(frameL a s.data.toList).toArray⟩

theorem frameL_length (a : Nat) (s : List UInt8) : (frameL a s).length = s.length + 12 := by
  simp [frameL, putL_length]
  omega

theorem frameB_size (a : Nat) (s : ByteArray) : (frameB a s).size = s.size + 12 := by
  unfold frameB
  rw [bytes_size, frameL_length]
  simp

theorem lsn_any (n : Nat) (w : World) (hn : n ≤ 4611686018427387904) :
    Calls Tryz.prog 75 #[.int .i64 n] w fun e w' => e = .returned (.int .u64 ((n + 1 : Nat) : Int)) ∧ w' = w := by
  go_enter Tryz.func75, Tryz.ntmps75
  go_wp2
  go_ret
  exact ⟨by go_num, rfl⟩

theorem frame_record (a : Nat) (s : ByteArray) (w : World) (h : s.size = 0 ∨ 8192 < s.size) (hs : s.size ≤ maxLen) :
    Calls Tryz.prog 121 #[.int .u64 a, .string s] w fun e w' => e = .returned (.tuple #[.string ⟨#[]⟩, .int .i64 51]) ∧ w' = w := by
  unfold maxLen at hs
  rcases h with h | h
  · have e0 : ((s.size : Int) == 0) = true := by rw [h]; rfl
    have d0 : (0 : Int) < s.size ↔ False := by rw [h]; simp
    go_enter Tryz.func121, Tryz.ntmps121
    go_wp2
    all_goals go_ret2
    all_goals exact ⟨rfl, rfl⟩
  · have e0 : ((s.size : Int) == 0) = false := by simp only [beq_eq_false_iff_ne]; omega
    go_enter Tryz.func121, Tryz.ntmps121
    go_wp2
    go_ret2
    exact ⟨rfl, rfl⟩

theorem put_size (n : Nat) (k : Nat) : (ByteArray.mk (putL n k).toArray).size = k := by rw [bytes_size, putL_length]

theorem frame_parts (a : Nat) (s : ByteArray) (x : Nat) (hx : x = crcSum 0 (putL a 8 ++ s.data.toList)) :
    ByteArray.mk (putL s.size 4).toArray ++ ByteArray.mk (putL x 4).toArray ++ s ++ ByteArray.mk (putL s.size 4).toArray = frameB a s := by
  have hs : s = ByteArray.mk s.data.toList.toArray := (bytes_self s).symm
  generalize s.data.toList = L at *
  subst hs
  rw [bytes_add, bytes_add, bytes_add, hx, bytes_size]
  rfl

set_option maxHeartbeats 800000 in
set_option maxRecDepth 60000 in
theorem frame_ok (a : Nat) (s : ByteArray) (w : World) (ha : 1 ≤ a) (ha' : a < 18446744073709551616) (h1 : 1 ≤ s.size) (h2 : s.size ≤ 8192) :
    Calls Tryz.prog 121 #[.int .u64 a, .string s] w fun e w' => e = .returned (.tuple #[.string (frameB a s), .int .i64 0]) ∧ Below w.heap.size w w' := by
  have hx1 : crcSum 0 (putL a 8) < 4294967296 := crcSum_lt _ _
  have hx2 : crcSum (crcSum 0 (putL a 8)) s.data.toList < 4294967296 := crcSum_lt _ _
  have HX : Hid (crcSum (crcSum 0 (putL a 8)) s.data.toList = crcSum 0 (putL a 8 ++ s.data.toList)) := crcSum_append (by omega) _ _
  have hz8 := put_size a 8
  have e0 : ((s.size : Int) == 0) = false := by simp only [beq_eq_false_iff_ne]; omega
  have e1 : ((a : Int) == 0) = false := by simp only [beq_eq_false_iff_ne]; omega
  have hz4 := put_size s.size 4
  go_enter Tryz.func121, Tryz.ntmps121
  go_wp2_with fail
  refine (put_any s.size 4 w (by omega)).mono ?_
  rintro e w1 ⟨rfl, b1⟩
  rw [show longOf 4 = 4 from rfl]
  go_wp2_with fail
  refine (put_any a 8 _ ha').mono ?_
  rintro e w2 ⟨rfl, b2⟩
  rw [show longOf 8 = 8 from rfl]
  go_wp2_with fail
  refine (sum_any _ _ (by rw [put_size]; decide)).mono ?_
  rintro e w3 ⟨rfl, rfl⟩
  go_wp2_with fail
  refine (more_any _ s _ hx1 (by unfold maxLen; omega)).mono ?_
  rintro e w3 ⟨rfl, rfl⟩
  generalize crcSum (crcSum 0 (putL a 8)) s.data.toList = x at *
  have hz5 := put_size x 4
  go_wp2_with fail
  refine (put_any x 4 _ (by omega)).mono ?_
  rintro e w4 ⟨rfl, b4⟩
  rw [show longOf 4 = 4 from rfl]
  have HB : Hid (Below w.heap.size w w4) := (b1.trans (b2.mono b1.size)).trans (b4.mono (b1.trans (b2.mono b1.size)).size)
  have HF := frame_parts a s x HX.out
  clear b1 b2 b4
  go_wp2
  go_ret2
  exact ⟨rfl, HB.out⟩

theorem ne_lists {a b : ByteArray} (h : a ≠ b) : (a.toList == b.toList) = false := by
  rw [beq_eq_false_iff_ne, ByteArray.toList_eq, ByteArray.toList_eq]
  exact fun e => h (Go.WideShapes.bytes_inj e)

def frameN (all : ByteArray) (a : Nat) : Nat :=
  if a + 4 ≤ all.size ∧ le (part all a 4) ≤ 8192 ∧ le (part all a 4) + 12 ≤ all.size - a ∧ 1 ≤ le (part all a 4) ∧
    frameB (a + 1) ((all.extract a (a + (le (part all a 4) + 12))).extract 8 (le (part all a 4) + 8)) = all.extract a (a + (le (part all a 4) + 12)) then le (part all a 4) + 12 else 0

set_option maxHeartbeats 400000 in
set_option maxRecDepth 4000 in
theorem frameAt_any (all : ByteArray) (a : Nat) (w : World) (ha : a ≤ all.size) (hs : all.size ≤ 1000000000) :
    Calls Tryz.prog 81 #[.string all, .int .i64 a] w fun e w' => e = .returned (.int .i64 (frameN all a)) ∧ Below w.heap.size w w' := by
  by_cases h4 : all.size < a + 4
  · have e : frameN all a = 0 := if_neg fun h => by omega
    rw [e]
    go_enter Tryz.func81, Tryz.ntmps81
    go_wp2_with fail
    refine (get_cut all a 4 _ (by omega) ha (by omega) (by unfold maxLen; omega)).mono ?_
    rintro e w1 ⟨rfl, rfl⟩
    go_wp2
    go_ret
    exact ⟨rfl, Below.refl _ _⟩
  have h4 : a + 4 ≤ all.size := by omega
  have HG : Hid (∀ W : World, Calls Tryz.prog 123 #[.string all, .int .i64 a, .int .i64 4] W fun e w' => e = .returned (.tuple #[.int .u64 (le (part all a 4)), .int .i64 0]) ∧ w' = W) :=
    fun W => get_ok all a 4 W (by omega) h4 (by unfold maxLen; omega)
  have hn : le (part all a 4) < 4294967296 := le_lt_of (n := 4) (by rw [part_length h4]; omega)
  have HN : Hid (frameN all a = if a + 4 ≤ all.size ∧ le (part all a 4) ≤ 8192 ∧ le (part all a 4) + 12 ≤ all.size - a ∧ 1 ≤ le (part all a 4) ∧
    frameB (a + 1) ((all.extract a (a + (le (part all a 4) + 12))).extract 8 (le (part all a 4) + 8)) = all.extract a (a + (le (part all a 4) + 12)) then le (part all a 4) + 12 else 0) := rfl
  generalize le (part all a 4) = n at *
  generalize frameN all a = N at *
  by_cases h1 : 8192 < n
  · have e : N = 0 := by rw [HN.out]; exact if_neg fun h => by omega
    subst e
    have d1 : decide ((8192 : Int) < (n : Int)) = true := by simp; omega
    clear HN
    go_enter Tryz.func81, Tryz.ntmps81
    go_wp2_with fail
    refine (HG.out _).mono ?_
    rintro e w1 ⟨rfl, rfl⟩
    go_wp2
    go_ret
    exact ⟨rfl, Below.refl _ _⟩
  have d1 : decide ((8192 : Int) < (n : Int)) = false := by simp; omega
  by_cases h2 : all.size - a < n + 12
  · have e : N = 0 := by rw [HN.out]; exact if_neg fun h => by omega
    subst e
    have d2 : decide ((all.size : Int) - (a : Int) < (n : Int) + 12) = true := by simp; omega
    clear HN
    go_enter Tryz.func81, Tryz.ntmps81
    go_wp2_with fail
    refine (HG.out _).mono ?_
    rintro e w1 ⟨rfl, rfl⟩
    go_wp2
    go_ret
    exact ⟨rfl, Below.refl _ _⟩
  have d2 : decide ((all.size : Int) - (a : Int) < (n : Int) + 12) = false := by simp; omega
  have hX : (all.extract a (a + (n + 12))).size = n + 12 := by rw [ByteArray.size_extract]; omega
  by_cases h3 : n < 1
  · have e : N = 0 := by rw [HN.out]; exact if_neg fun h => by omega
    subst e
    obtain rfl : n = 0 := by omega
    clear HN
    have hX : (all.extract a (a + 12)).size = 12 := hX
    have HF : Hid (∀ (X : ByteArray) (W : World), X.size = 0 → Calls Tryz.prog 121 #[.int .u64 ((a + 1 : Nat) : Int), .string X] W fun e w' => e = .returned (.tuple #[.string ⟨#[]⟩, .int .i64 51]) ∧ w' = W) :=
      fun X W hR => frame_record (a + 1) _ W (.inl hR) (by rw [hR]; decide)
    have hw8 : IntKind.i64.wrap 8 = 8 := by decide
    have hR : ∀ X : ByteArray, (X.extract 8 8).size = 0 := fun X => by rw [ByteArray.size_extract]; omega
    go_enter Tryz.func81, Tryz.ntmps81
    go_wp2_with fail
    refine (HG.out _).mono ?_
    rintro e w1 ⟨rfl, rfl⟩
    go_wp2_with fail
    generalize all.extract a (a + 12) = X at *
    go_region_held3 (fun w' => True) (first | trivial | go_keep)
      (first | (go_at_call 75; refine (lsn_any a _ (by omega)).mono ?_; rintro x w3 ⟨rfl, rfl⟩) | (go_at_call 121; refine (HF.out _ _ (by first | exact hR _ | rfl | omega)).mono ?_; rintro x w4 ⟨rfl, rfl⟩))
    go_wp2
    go_ret
    exact ⟨rfl, (Below.refl _ _).drew⟩
  have e3 : (1 : Int) ≤ n := by omega
  have hw8 : IntKind.i64.wrap ((n : Int) + 12 - 4) = ((n + 8 : Nat) : Int) := by rw [IntKind.wrap_i64]; omega
  have b1 : (0 : Int) ≤ (n : Int) + 8 := by omega
  have b2 : (8 : Int) ≤ (n : Int) + 8 := by omega
  have b3 : (n : Int) + 8 ≤ (n : Int) + 12 := by omega
  have hR : ((all.extract a (a + (n + 12))).extract 8 (n + 8)).size = n := by rw [ByteArray.size_extract]; omega
  have HF : Hid (∀ (W : World), Calls Tryz.prog 121 #[.int .u64 ((a + 1 : Nat) : Int), .string ((all.extract a (a + (n + 12))).extract 8 (n + 8))] W fun e w' => e = .returned (.tuple #[.string (frameB (a + 1) ((all.extract a (a + (n + 12))).extract 8 (n + 8))), .int .i64 0]) ∧ Below W.heap.size W w') :=
    fun W => frame_ok (a + 1) _ W (by omega) (by omega) (by omega) (by omega)
  have HN : Hid (N = if frameB (a + 1) ((all.extract a (a + (n + 12))).extract 8 (n + 8)) = all.extract a (a + (n + 12)) then n + 12 else 0) := by
    show N = _
    rw [HN.out]
    by_cases e : frameB (a + 1) ((all.extract a (a + (n + 12))).extract 8 (n + 8)) = all.extract a (a + (n + 12))
    · rw [if_pos e, if_pos ⟨h4, by omega, by omega, by omega, e⟩]
    · rw [if_neg e, if_neg fun h => e h.2.2.2.2]
  have hX' : ((all.extract a (a + (n + 12))).size : Int) = (n : Int) + 12 := by rw [hX]; rfl
  go_enter Tryz.func81, Tryz.ntmps81
  go_wp2_with fail
  refine (HG.out _).mono ?_
  rintro e w1 ⟨rfl, rfl⟩
  go_wp2_with fail
  generalize all.extract a (a + (n + 12)) = X at *
  go_region_held3 (fun w' => True) (first | trivial | go_keep)
    (first | (go_at_call 75; refine (lsn_any a _ (by omega)).mono ?_; rintro x w3 ⟨rfl, rfl⟩) | (go_at_call 121; refine (HF.out _).mono ?_; rintro x w4 ⟨rfl, b4⟩))
  generalize frameB (a + 1) (X.extract 8 (n + 8)) = Y at *
  by_cases e : Y = X
  · subst e
    have eN : N = n + 12 := by rw [HN.out, if_pos rfl]
    subst eN
    clear HN
    go_wp2
    go_ret
    exact ⟨rfl, ((Below.refl _ _).drew).trans b4⟩
  · have eN : N = 0 := by rw [HN.out, if_neg e]
    have e' := ne_lists e
    subst eN
    clear HN
    go_wp2
    go_ret
    exact ⟨rfl, ((Below.refl _ _).drew).trans b4⟩

end Go.Proofs.YtgkfdakieebnmaaGreat

namespace Go.Proofs.YtgkfdakieebnmaaGreat
open Go.RowKit

def ByteRow (w : World) (v : Value) (l : List UInt8) : Prop :=
  (v = .slice none 0 0 ∧ l = []) ∨ ∃ g cap cur fz, v = .slice (some ⟨g, 0, none⟩) l.length cap ∧ w.heap[g]? = some (.cells cur 5 fz) ∧ (fz.2 = 0 ∨ cap ≤ fz.1) ∧ l.length ≤ cap ∧ cap ≤ maxLen ∧ cur.size = cap ∧ cur.toList.take l.length = dcellsOf l

theorem ByteRow.block {w : World} {v : Value} {l : List UInt8} (h : ByteRow w v l) {g : Nat} (k : v.ownBlock = some g) : ∃ cur fz, w.heap[g]? = some (.cells cur 5 fz) := by
  rcases h with ⟨rfl, _⟩ | ⟨g', cap, cur, fz, rfl, hb, _⟩
  · cases k
  · cases k; exact ⟨cur, fz, hb⟩

theorem ByteRow.lt {w : World} {v : Value} {l : List UInt8} (h : ByteRow w v l) {g : Nat} (k : v.ownBlock = some g) : g < w.heap.size := by
  obtain ⟨cur, fz, hb⟩ := h.block k
  exact (Array.getElem?_eq_some_iff.1 hb).1

theorem ByteRow.same {w w' : World} {v : Value} {l : List UInt8} (h : ByteRow w v l) (k : ∀ g, v.ownBlock = some g → w'.heap[g]? = w.heap[g]?) : ByteRow w' v l := by
  rcases h with h | ⟨g', cap, cur, fz, rfl, hb, hr⟩
  · exact .inl h
  · exact .inr ⟨g', cap, cur, fz, rfl, (k g' rfl).trans hb, hr⟩

theorem ByteRow.slice {w : World} {v : Value} {l : List UInt8} (h : ByteRow w v l) : ∃ a c, v = .slice a l.length c := by
  rcases h with ⟨rfl, rfl⟩ | ⟨g', cap, cur, fz, rfl, _⟩
  · exact ⟨none, 0, rfl⟩
  · exact ⟨_, _, rfl⟩

theorem cellsOf_get {l : List UInt8} {j : Nat} (hj : j < l.length) : (dcellsOf l)[j]? = some (.int .u8 (l[j].toNat : Int)) := by
  simp [dcellsOf, hj]

theorem ByteRow.cell {w : World} {g cap : Nat} {l : List UInt8} {n : Nat} (h : ByteRow w (.slice (some ⟨g, 0, none⟩) n cap) l) (j : Nat) (hj : j < l.length) : w.cell? ⟨g, j, none⟩ = some (.int .u8 (l[j].toNat : Int)) := by
  rcases h with ⟨h, _⟩ | ⟨g', cap', cur, fz, e, hb, _, _, _, hc, ht⟩
  · cases h
  · simp only [Value.slice.injEq, Option.some.injEq, Addr.mk.injEq] at e
    obtain ⟨⟨rfl, _, _⟩, _, _⟩ := e
    have h1 := cellsOf_get hj
    rw [← ht, List.getElem?_take, if_pos hj] at h1
    rw [cell_of_row w g j cur _ fz hb]
    simpa using h1

theorem ByteRow.of_owns {w : World} {v : Value} {l : List UInt8} (h : w.ownsRow 0 5 1 v l.length (dcellsOf l)) : ByteRow w v l := by
  rcases h.2 with ⟨e, e2⟩ | ⟨g, cap, cur, rfl, _, hg, h1, h2, h3, h4⟩
  · exact .inl ⟨e, List.eq_nil_of_length_eq_zero e2⟩
  · exact .inr ⟨g, cap, cur, (0, 0), rfl, hg, .inl rfl, h1, h2, by simpa using h3, by simpa using h4⟩

theorem storeCells_row (P : Program) (g o : Nat) (t : TypeId) (fz : Nat × Nat) : ∀ (vs : List Value) (i : Nat) (cur : Array Value) (w : World), w.heap[g]? = some (.cells cur t fz) → (fz.2 = 0 ∨ cur.size ≤ fz.1) → o + i + vs.length ≤ cur.size → (∀ v ∈ vs, v.oneCell' = true) →
    (storeCells ⟨g, o, none⟩ vs i).run P w = .ok () (w.setRow g (cur.toList.take (o + i) ++ vs ++ cur.toList.drop (o + i + vs.length)).toArray)
  | [], i, cur, w, hg, _, _, _ => by
    simp only [storeCells, List.append_nil, List.length_nil, Nat.add_zero, List.take_append_drop, Array.toArray_toList]
    rw [setRow_self w g cur t fz hg]
    rfl
  | v :: rest, i, cur, w, hg, hfz, hl, h1 => by
    have hi : o + i < cur.size := by simp at hl; omega
    have hadd : (⟨g, o, none⟩ : Addr).add i = ⟨g, o + i, none⟩ := by unfold Addr.add; split <;> simp_all
    have hcell : w.cell? ⟨g, o + i, none⟩ = some cur[o + i] := by simp [World.cell?, hg, hi]
    have hfro : w.frozen? ⟨g, o + i, none⟩ = false := by
      obtain ⟨lo, hi'⟩ := fz
      simp only [World.frozen?, hg, Bool.and_eq_false_iff, decide_eq_false_iff_not]
      simp only at hfz
      omega
    have hst : (store ((⟨g, o, none⟩ : Addr).add i) v).run P w = .ok () (w.setRow g (cur.setIfInBounds (o + i) v)) := by
      rw [hadd, run_store P w _ v _ (h1 v (by simp)), hcell]
      simp [hfro, setCell_eq_setRow w g (o + i) cur t fz v hg]
    have ih := storeCells_row P g o t fz rest (i + 1) (cur.setIfInBounds (o + i) v) (w.setRow g (cur.setIfInBounds (o + i) v)) (setRow_heap w g cur _ t _ hg) (by simpa using hfz) (by simp at hl ⊢; omega) (fun x hx => h1 x (by simp [hx]))
    simp only [storeCells, Sem.run_bind, hst, Result.andThen_ok, ih, setRow_setRow]
    congr 3
    have e := list_seg_step cur.toList (o + i) v rest (by simp at hl ⊢; omega)
    simpa [Array.toList_setIfInBounds, Nat.add_assoc] using e

theorem run_row_room (w : World) (ty : TypeId) (g n cap : Nat) (cur : Array Value) (fz : Nat × Nat) (hg : w.heap[g]? = some (.cells cur 5 fz)) (hfz : fz.2 = 0 ∨ cur.size ≤ fz.1) (s : ByteArray)
    (hroom : n + s.size ≤ cap) (hfit : n + s.size ≤ cur.size) :
    (Builtin.append_ #[90, 9] ty #[.slice (some ⟨g, 0, none⟩) n cap, .string s]).run Tryz.prog w =
      .ok (.slice (some ⟨g, 0, none⟩) (n + s.size) cap) (w.setRow g (cur.toList.take n ++ Lib.strCells s ++ cur.toList.drop (n + s.size)).toArray) := by
  obtain ⟨i0, hi, hz0, hz1, hz2⟩ := info_parts infoB
  have hf := Lib.run_firstCells_string (P := Tryz.prog) w 1 s
  have hst := storeCells_row Tryz.prog g n 5 fz (Lib.strCells s) 0 cur w hg hfz (by simpa [Lib.strCells_length] using hfit) (Lib.strCells_oneCell s)
  simp only [Nat.add_zero, Lib.strCells_length] at hst
  simp [Builtin.append_, run_underlying Tryz.underlying90, run_underlying Tryz.underlying9, sizeOf, typeInfo, hi, hz1, Builtin.lenOf, hroom, hf, Addr.add_lit, hst]

theorem run_row_text (w : World) (ty : TypeId) (v : Value) (l : List UInt8) (hown : ByteRow w v l) (s : ByteArray) (hb : l.length + s.size ≤ 1000000000) :
    ∃ v' w', (Builtin.append_ #[90, 9] ty #[v, .string s]).run Tryz.prog w = .ok v' w' ∧ ByteRow w' v' (l ++ s.data.toList) ∧ w.grownBy w' v.ownBlock ∧ (∀ k, v'.ownBlock = some k → v.ownBlock = some k ∨ w.heap.size ≤ k) := by
  obtain ⟨i0, hi, hz0, hz1, hz2⟩ := info_parts infoB
  have hlen : (l ++ s.data.toList).length = l.length + s.size := by simp
  have hcells : dcellsOf (l ++ s.data.toList) = dcellsOf l ++ Lib.strCells s := by rw [dstrCells_eq]; simp [dcellsOf]
  have hcl : (dcellsOf l).length = l.length := by simp [dcellsOf]
  rcases hown with ⟨rfl, rfl⟩ | ⟨g, cap, cur, fz, rfl, hg, hfz, hnc, hcm, hcs, htake⟩
  · obtain ⟨v', w', h1, h2, h3, h4⟩ := run_text_at w ty (.slice none 0 0) 0 [] (World.ownsRow_nil w 0 _ _) s (by simpa using hb)
    refine ⟨v', w', h1, ByteRow.of_owns ?_, h3, h4⟩
    rw [hlen, hcells]
    simpa [dcellsOf] using h2
  · by_cases hroom : l.length + s.size ≤ cap
    · have hr := run_row_room w ty g l.length cap cur fz hg (by rw [hcs]; exact hfz) s hroom (by omega)
      refine ⟨_, _, hr, .inr ⟨g, cap, _, fz, by rw [hlen], setRow_heap w g cur _ _ _ hg, hfz, by omega, hcm, ?_, ?_⟩, ⟨rfl, rfl, rfl, by simp, fun k _ hk => setRow_other w g k _ (fun e => hk (by simp [Value.ownBlock, e]))⟩, fun k hk => .inl hk⟩
      · simp only [List.size_toArray, List.length_append, List.length_take, List.length_drop, Array.length_toList, Lib.strCells_length]
        omega
      · rw [htake, hcells]
        have e : (dcellsOf l ++ Lib.strCells s).length = (l ++ s.data.toList).length := by rw [List.length_append, hcl, Lib.strCells_length, hlen]
        rw [← e]
        exact List.take_left
    · have holds : ∀ j u, (dcellsOf l)[j]? = some u → w.cell? ((⟨g, 0, none⟩ : Addr).add j) = some u := by
        intro j u hu
        have hadd : (⟨g, 0, none⟩ : Addr).add j = ⟨g, j, none⟩ := by unfold Addr.add; split <;> simp_all
        rw [hadd, cell_of_row w g j cur _ fz hg]
        rw [← htake, List.getElem?_take] at hu
        split at hu
        · simpa using hu
        · cases hu
      have hr := Lib.run_append_grow_string (P := Tryz.prog) w 90 9 ty 5 i0 (.int .u8 0) Tryz.underlying90 Tryz.underlying9 hi hz0 ⟨g, 0, none⟩ l.length cap (dcellsOf l) (by rw [hz1]; simpa using hcl) holds s (by omega) (by omega) (by rw [hz2]; exact growslice_fits (by omega) (by omega))
      have hge := grownCap_ge w (l.length + s.size) cap 5
      have hcm2 : grownCap w (l.length + s.size) cap 5 ≤ maxLen := grownCap_le_maxLen w (l.length + s.size) cap 5 (by unfold maxLen; omega)
      refine ⟨_, _, hr, .inr ⟨w.heap.size, _, _, (0, 0), by rw [hlen], heap_alloc_new w.drew _, .inl rfl, by rw [hlen]; exact hge, hcm2, ?_, ?_⟩, ⟨rfl, rfl, rfl, by simp, fun k hk _ => Go.heap_alloc_old w.drew _ hk⟩, fun k hk => .inr (by simp only [Value.ownBlock, Option.some.injEq] at hk; omega)⟩
      · have hz1 : (Value.int IntKind.u8 0).cells.size = 1 := rfl
        simp only [Array.size_append, List.size_toArray, size_zeroCells, hz1, hcl, Lib.strCells_length]
        omega
      · simp only [Array.toList_append, List.append_assoc]
        rw [← List.append_assoc, hcells]
        have e : (dcellsOf l ++ Lib.strCells s).length = (l ++ s.data.toList).length := by rw [List.length_append, hcl, Lib.strCells_length, hlen]
        rw [← e]
        exact List.take_left

theorem wpList_row_text (w : World) {ops : Array Oper} {rest : List Oper} {o : Oper} {a : Act} {Q : Exit → Act → World → Prop} (hgd : o.guard = none) (sl x : Operand)
    (ho : o.op = .call { callee := .builtin .append, args := #[sl, x], argTypes := #[90, 9] }) (v : Value) (l : List UInt8) (hs : a.eval sl = v) (hown : ByteRow w v l) (s : ByteArray) (hx : a.eval x = .string s)
    (hb : l.length + s.size ≤ 1000000000)
    (h : ∀ v' w', ByteRow w' v' (l ++ s.data.toList) → w.grownBy w' v.ownBlock → (∀ k, v'.ownBlock = some k → v.ownBlock = some k ∨ w.heap.size ≤ k) → wpList Tryz.prog ops Q rest (a.put o.dst v') w') : wpList Tryz.prog ops Q (o :: rest) a w := by
  refine wpList_plain hgd fun K hK => ?_
  obtain ⟨v', w', hr, h2, h3, h4⟩ := run_row_text w o.type v l hown s hb
  unfold Oper.wp execOp
  simp only [ho, resolve, invoke, builtin, Sem.run_bind, Sem.run_pure, Result.andThen_ok, List.map_toArray, List.map_cons, List.map_nil, hs, hx, hr]
  exact hK _ _ (h v' w' h2 h3 h4)

theorem run_row_made (w : World) (s : ByteArray) (hs : s.size ≤ 1000000000) :
    ∃ v w', (convert 9 90 (.string s)).run Tryz.prog w = .ok v w' ∧ ByteRow w' v s.data.toList ∧ Below w.heap.size w w' ∧ (∀ k, v.ownBlock = some k → w.heap.size ≤ k) := by
  have hr := Lib.run_convert_string_bytes (P := Tryz.prog) w 9 90 5 s Tryz.underlying9 Tryz.underlying90 Tryz.underlying5
  have hge := grownCap_ge w s.size 0 5
  have hcm2 : grownCap w s.size 0 5 ≤ maxLen := grownCap_le_maxLen w s.size 0 5 (by unfold maxLen; omega)
  have hz : (Lib.bytesCells w 5 s).size = grownCap w s.size 0 5 := by
    simp [Lib.bytesCells]
    omega
  refine ⟨_, _, hr, .inr ⟨w.heap.size, _, _, _, by simp, Lib.bytesWorld_at_new w _ s, .inr (by rw [hz]; exact Nat.le_refl _), by simpa using hge, hcm2, hz, ?_⟩, ⟨rfl, rfl, rfl, by rw [Lib.bytesWorld_size]; omega, fun k hk => Lib.bytesWorld_at_old w _ s k hk⟩, fun k hk => by simp only [Value.ownBlock, Option.some.injEq] at hk; omega⟩
  simp only [Lib.bytesCells, Array.toList_append, Array.toList_map]
  rw [List.take_append_of_le_length (by simp), List.take_of_length_le (by simp)]
  rfl

end Go.Proofs.YtgkfdakieebnmaaGreat

namespace Go.Proofs.YtgkfdakieebnmaaGreat
open Go.RowKit

structure LG where
  dp : Nat
  bytes : List UInt8
  starts : List Nat
  flushed : Nat
  half : Bool
  kept : Nat

def lsnCells (l : List Nat) : List Value := l.map fun (n : Nat) => .int .u64 (n : Int)

def lvals (bv sv : Value) (l : LG) : Array Value := #[.pointer (some ⟨l.dp, 0, none⟩), bv, sv, .int .i64 l.flushed, .bool l.half, .int .i64 l.kept]

structure LogAt (w : World) (p : Nat) (bv sv : Value) (l : LG) : Prop where
  blk : Blk w p (lvals bv sv l) 97
  bytes : ByteRow w bv l.bytes
  starts : w.ownsRow 0 41 1 sv l.starts.length (lsnCells l.starts)

structure LCells (w : World) (p : Nat) (bv sv : Value) (l : LG) : Prop where
  c0 : w.cell? ⟨p, 0, none⟩ = some (.pointer (some ⟨l.dp, 0, none⟩))
  c1 : w.cell? ⟨p, 1, none⟩ = some bv
  c2 : w.cell? ⟨p, 2, none⟩ = some sv
  c3 : w.cell? ⟨p, 3, none⟩ = some (.int .i64 l.flushed)
  c4 : w.cell? ⟨p, 4, none⟩ = some (.bool l.half)
  c5 : w.cell? ⟨p, 5, none⟩ = some (.int .i64 l.kept)
  fr : ∀ i, w.frozen? ⟨p, i, none⟩ = false

theorem LogAt.cells {w : World} {p : Nat} {bv sv : Value} {l : LG} (h : LogAt w p bv sv l) : LCells w p bv sv l :=
  ⟨h.blk.cell 0, h.blk.cell 1, h.blk.cell 2, h.blk.cell 3, h.blk.cell 4, h.blk.cell 5, h.blk.frozen⟩

def lhas (p : Nat) (bv sv : Value) (k : Nat) : Prop := k = p ∨ bv.ownBlock = some k ∨ sv.ownBlock = some k

theorem LogAt.same {w w' : World} {p : Nat} {bv sv : Value} {l : LG} (h : LogAt w p bv sv l) (e : ∀ k, lhas p bv sv k → w'.heap[k]? = w.heap[k]?) : LogAt w' p bv sv l :=
  ⟨h.blk.same (e p (.inl rfl)), h.bytes.same fun g k => e g (.inr (.inl k)), owns_same h.starts fun g k => e g (.inr (.inr k))⟩

theorem owns_lt {w : World} {e : TypeId} {z n : Nat} {v : Value} {xs : List Value} (h : w.ownsRow 0 e z v n xs) {g : Nat} (k : v.ownBlock = some g) : g < w.heap.size := by
  obtain ⟨cur, hb⟩ := owns_block h k
  exact hb.lt

theorem LogAt.lt {w : World} {p : Nat} {bv sv : Value} {l : LG} (h : LogAt w p bv sv l) {k : Nat} (hk : lhas p bv sv k) : k < w.heap.size := by
  rcases hk with rfl | hk | hk
  · exact h.blk.lt
  · exact h.bytes.lt hk
  · exact owns_lt h.starts hk

theorem LogAt.apart {w : World} {p : Nat} {bv sv : Value} {l : LG} (h : LogAt w p bv sv l) :
    (∀ g, bv.ownBlock = some g → g ≠ p ∧ sv.ownBlock ≠ some g) ∧ (∀ g, sv.ownBlock = some g → g ≠ p) := by
  have hb := h.blk
  unfold Blk at hb
  refine ⟨fun g k => ⟨?_, fun k' => ?_⟩, fun g k => ?_⟩
  · rintro rfl
    obtain ⟨cur, fz, e⟩ := h.bytes.block k
    rw [e] at hb
    simp only [Option.some.injEq, Obj.cells.injEq] at hb
    exact absurd hb.2.1 (by decide)
  · obtain ⟨cur, fz, e⟩ := h.bytes.block k
    obtain ⟨cur', e'⟩ := owns_block h.starts k'
    unfold Blk at e'; rw [e] at e'
    simp only [Option.some.injEq, Obj.cells.injEq] at e'
    exact absurd e'.2.1 (by decide)
  · rintro rfl
    obtain ⟨cur, e⟩ := owns_block h.starts k
    unfold Blk at e; rw [e] at hb
    simp only [Option.some.injEq, Obj.cells.injEq] at hb
    exact absurd hb.2.1 (by decide)

def IsLog (w : World) (p : Nat) (S : Nat → Prop) (l : LG) : Prop := ∃ bv sv, LogAt w p bv sv l ∧ (∀ k, lhas p bv sv k → S k) ∧ ∀ k, S k → k < w.heap.size

theorem IsLog.same {w w' : World} {p : Nat} {S : Nat → Prop} {l : LG} (h : IsLog w p S l) (e : ∀ k, S k → w'.heap[k]? = w.heap[k]?) (hs : w.heap.size ≤ w'.heap.size) : IsLog w' p S l := by
  obtain ⟨bv, sv, hd, h1, h2⟩ := h
  exact ⟨bv, sv, hd.same fun k hk => e k (h1 k hk), h1, fun k hk => Nat.lt_of_lt_of_le (h2 k hk) hs⟩

theorem IsLog.lt {w : World} {p : Nat} {S : Nat → Prop} {l : LG} (h : IsLog w p S l) {k : Nat} (hk : S k) : k < w.heap.size := by
  obtain ⟨_, _, _, _, h2⟩ := h
  exact h2 k hk

theorem IsLog.below {w w' : World} {p : Nat} {S : Nat → Prop} {l : LG} (h : IsLog w p S l) (k : Below w.heap.size w w') : IsLog w' p S l :=
  h.same (fun i hi => k.block i (h.lt hi)) k.size

theorem IsLog.beside {w w' : World} {p : Nat} {S D D' : Nat → Prop} {l : LG} (h : IsLog w p S l) (hm : Moves D D' w w') (ha : ∀ k, S k → ¬ D k) : IsLog w' p S l ∧ ∀ k, S k → ¬ D' k :=
  ⟨h.same (fun k hk => hm.1.block k (h.lt hk) (ha k hk)) hm.1.size, fun k hk => (hm.off (h.lt hk) (ha k hk)).2⟩

theorem IsDisk.lt {w : World} {p : Nat} {S : Nat → Prop} {d : DG} (h : IsDisk w p S d) {k : Nat} (hk : S k) : k < w.heap.size := by
  obtain ⟨_, _, _, h2⟩ := h
  exact h2 k hk

theorem IsDisk.beside {w w' : World} {p : Nat} {S D D' : Nat → Prop} {d : DG} (h : IsDisk w p S d) (hm : Moves D D' w w') (ha : ∀ k, S k → ¬ D k) : IsDisk w' p S d ∧ ∀ k, S k → ¬ D' k :=
  ⟨h.same (fun k hk => hm.1.block k (h.lt hk) (ha k hk)) hm.1.size, fun k hk => (hm.off (h.lt hk) (ha k hk)).2⟩

theorem owns_slice {w : World} {e : TypeId} {z n : Nat} {v : Value} {xs : List Value} (h : w.ownsRow 0 e z v n xs) : ∃ a c, v = .slice a n c := by
  rcases h.2 with ⟨e1, e2⟩ | ⟨g, cap, cur, e1, _⟩
  · exact ⟨none, 0, by rw [e1, e2]⟩
  · exact ⟨_, _, e1⟩

section
variable {w : World} {p : Nat} {S : Nat → Prop} {l : LG}

theorem room_out (h : IsLog w p S l) (hl : l.bytes.length ≤ 4194304) :
    Calls Tryz.prog 57 #[.pointer (some ⟨p, 0, none⟩)] w fun e w' => e = .returned (.int .i64 ((4194304 : Int) - (l.bytes.length : Int))) ∧ w' = w := by
  obtain ⟨bv, sv, hL, _⟩ := h
  have c1 := hL.cells.c1
  obtain ⟨a, c, rfl⟩ := hL.bytes.slice
  clear hL
  go_enter Tryz.func57, Tryz.ntmps57
  go_wp2
  go_ret
  exact ⟨rfl, rfl⟩

theorem end_out (h : IsLog w p S l) (hl : l.bytes.length ≤ 4194304) :
    Calls Tryz.prog 26 #[.pointer (some ⟨p, 0, none⟩)] w fun e w' => e = .returned (.int .u64 ((l.bytes.length + 1 : Nat) : Int)) ∧ w' = w := by
  obtain ⟨bv, sv, hL, _⟩ := h
  have c1 := hL.cells.c1
  obtain ⟨a, c, rfl⟩ := hL.bytes.slice
  clear hL
  go_enter Tryz.func26, Tryz.ntmps26
  go_wp2_with fail
  refine (lsn_any l.bytes.length _ (by omega)).mono ?_
  rintro e w1 ⟨rfl, rfl⟩
  go_wp2
  go_ret
  exact ⟨rfl, rfl⟩

theorem flushed_out (h : IsLog w p S l) (hl : l.flushed ≤ 4194304) :
    Calls Tryz.prog 72 #[.pointer (some ⟨p, 0, none⟩)] w fun e w' => e = .returned (.int .u64 ((l.flushed + 1 : Nat) : Int)) ∧ w' = w := by
  obtain ⟨bv, sv, hL, _⟩ := h
  have c3 := hL.cells.c3
  clear hL
  go_enter Tryz.func72, Tryz.ntmps72
  go_wp2_with fail
  refine (lsn_any l.flushed _ (by omega)).mono ?_
  rintro e w1 ⟨rfl, rfl⟩
  go_wp2
  go_ret
  exact ⟨rfl, rfl⟩

end

end Go.Proofs.YtgkfdakieebnmaaGreat

namespace Go.Proofs.YtgkfdakieebnmaaGreat
open Go.RowKit

theorem hid {p : Prop} (h : p) : Hid p := h

def scan (all : ByteArray) : Nat → Nat → List Nat × Nat
  | 0, a => ([], a)
  | n + 1, a => if frameN all a = 0 then ([], a) else ((a + 1) :: (scan all n (a + frameN all a)).1, (scan all n (a + frameN all a)).2)

theorem frameN_le {all : ByteArray} {a : Nat} (h : frameN all a ≠ 0) : 13 ≤ frameN all a ∧ a + frameN all a ≤ all.size := by
  unfold frameN at h ⊢
  split at h
  · rename_i k
    rw [if_pos k]
    obtain ⟨k1, k2, k3, k4, _⟩ := k
    omega
  · exact absurd rfl h

def log0 (dp : Nat) : LG := ⟨dp, [], [], 0, false, 0⟩

theorem infoL : (Tryz.prog.info? 41).map (fun i => (i.zero, i.size, i.bytes)) = some (some (.int .u64 0), 1, 8) := by kernel_rfl

theorem lsn_push (l : List Nat) (n : Nat) : lsnCells l ++ [.int .u64 (n : Int)] = lsnCells (l ++ [n]) := by simp [lsnCells]

structure TakeAt (w wr : World) (p dp : Nat) (all : ByteArray) (a : Nat) (sv : Value) (st : List Nat) : Prop where
  log : LogAt wr p (.slice none 0 0) sv { log0 dp with starts := st }
  kept : Kept (fun k => k = p) w wr
  new : ∀ g, sv.ownBlock = some g → w.heap.size ≤ g
  le : a ≤ all.size
  few : st.length ≤ a
  scn : ∃ n, all.size - a < n ∧ scan all (all.size + 1) 0 = (st ++ (scan all n a).1, (scan all n a).2)

theorem TakeAt.below {w wr wx : World} {p dp : Nat} {all : ByteArray} {a : Nat} {sv : Value} {st : List Nat} (h : TakeAt w wr p dp all a sv st) (b : Below wr.heap.size wr wx) : TakeAt w wx p dp all a sv st :=
  ⟨h.log.same fun k hk => b.block k (h.log.lt hk), h.kept.trans (Kept.of_below b), h.new, h.le, h.few, h.scn⟩

theorem TakeAt.start {w : World} {p dp : Nat} {all : ByteArray} (h : LogAt w p (.slice none 0 0) (.slice none 0 0) (log0 dp)) : TakeAt w w p dp all 0 (.slice none 0 0) [] :=
  ⟨h, Kept.refl _ _, fun g e => (by cases e), Nat.zero_le _, Nat.zero_le _, all.size + 1, by omega, by simp⟩

theorem TakeAt.next {w wr wx : World} {p dp : Nat} {all : ByteArray} {a : Nat} {sv sv' : Value} {st : List Nat} (h : TakeAt w wr p dp all a sv st) (hf : frameN all a ≠ 0)
    (hown : wx.ownsRow 0 41 1 sv' (st.length + 1) (lsnCells st ++ [.int .u64 ((a + 1 : Nat) : Int)])) (hg : wr.grownBy wx sv.ownBlock) (hl : ∀ k, sv'.ownBlock = some k → sv.ownBlock = some k ∨ wr.heap.size ≤ k) :
    TakeAt w (wx.setCell ⟨p, 2, none⟩ sv') p dp all (a + frameN all a) sv' (st ++ [a + 1]) := by
  have hp : sv.ownBlock ≠ some p := fun e => h.log.apart.2 p e rfl
  have hlt := h.log.blk.lt
  have hz := h.kept.size
  have hblk : Blk wx p (lvals (.slice none 0 0) sv { log0 dp with starts := st }) 97 := h.log.blk.same (hg.block p hlt fun e => hp e.symm)
  have hvp : ∀ k, sv'.ownBlock = some k → k ≠ p := by
    rintro k hk rfl
    rcases hl k hk with e | e
    · exact hp e
    · omega
  have hfe := frameN_le hf
  refine ⟨⟨hblk.set 2 sv', .inl ⟨rfl, rfl⟩, ?_⟩, ?_, ?_, hfe.2, ?_, ?_⟩
  · rw [lsn_push] at hown
    have e : (st ++ [a + 1]).length = st.length + 1 := by simp
    show (wx.setCell ⟨p, 2, none⟩ sv').ownsRow 0 41 1 sv' (st ++ [a + 1]).length (lsnCells (st ++ [a + 1]))
    rw [e]
    exact owns_same hown fun g k => heap_set _ _ _ _ (hvp g k)
  · have k1 : Kept (fun k => k = p) w wx := by
      refine ⟨hg.os.trans h.kept.os, hg.tape.trans h.kept.tape, hg.output.trans h.kept.output, Nat.le_trans hz hg.size, fun i hi hn => ?_⟩
      rw [hg.block i (by omega) fun e => by have := h.new i e.symm; omega]
      exact h.kept.block i hi hn
    exact k1.trans (Kept.setCell _ _ _ _ _ rfl)
  · intro g hg'
    rcases hl g hg' with e | e
    · exact h.new g e
    · omega
  · have := h.few; simp; omega
  · obtain ⟨n, hn, hs⟩ := h.scn
    cases n with
    | zero => omega
    | succ n =>
      refine ⟨n, by omega, ?_⟩
      rw [hs]
      have e : scan all (n + 1) a = ((a + 1) :: (scan all n (a + frameN all a)).1, (scan all n (a + frameN all a)).2) := by
        show (if _ then _ else _) = _
        rw [if_neg hf]
      rw [e]
      simp

set_option maxHeartbeats 800000 in
set_option maxRecDepth 8000 in
theorem take_any (w : World) (p dp : Nat) (all : ByteArray) (h : LogAt w p (.slice none 0 0) (.slice none 0 0) (log0 dp)) (hs : all.size ≤ 4194304) :
    Calls Tryz.prog 32 #[.pointer (some ⟨p, 0, none⟩), .string all] w fun e w' => e = .returned (.tuple #[]) ∧ ∃ bv sv, LogAt w' p bv sv ⟨dp, all.data.toList.take (scan all (all.size + 1) 0).2, (scan all (all.size + 1) 0).1, (scan all (all.size + 1) 0).2, false, 0⟩ ∧
      Kept (fun k => k = p) w w' ∧ (∀ k, bv.ownBlock = some k ∨ sv.ownBlock = some k → w.heap.size ≤ k) := by
  obtain ⟨i0, hi, hz0, hz1, hz2⟩ := info_parts infoL
  have HT : Hid (TakeAt w w p dp all 0 (.slice none 0 0) []) := TakeAt.start h
  clear h
  go_enter Tryz.func32, Tryz.ntmps32
  go_wp2_with fail
  refine (frameAt_any all 0 w (Nat.zero_le _) (by omega)).mono ?_
  rintro e w1 ⟨rfl, b1⟩
  have HT1 : Hid (TakeAt w w1 p dp all 0 (.slice none 0 0) []) := HT.out.below b1
  clear HT b1
  go_wp2_with fail
  go_loopw [4, 5] (fun x y wr => ∃ (a : Nat) (sv : Value) (st : List Nat), x = .int .i64 a ∧ y = .int .i64 (frameN all a) ∧ Hid (TakeAt w wr p dp all a sv st)) (fun x _ _ => all.size - (intOf x).toNat)
  case atStart => exact ⟨0, _, _, rfl, rfl, HT1⟩
  case round =>
    obtain ⟨a, sv, st, rfl, rfl, HA⟩ := hrel
    clear HT1
    have hal := HA.out.le
    by_cases hf : frameN all a = 0
    · obtain ⟨n, hn, hsc⟩ := HA.out.scn
      have hsc' : scan all (all.size + 1) 0 = (st, a) := by
        rw [hsc]
        cases n with
        | zero => omega
        | succ n =>
          have e : scan all (n + 1) a = ([], a) := by
            show (if _ then _ else _) = _
            rw [if_pos hf]
          rw [e]
          simp
      have HSC := hid hsc'
      have hf0 : (frameN all a : Int) = 0 := by omega
      have hxs : (all.extract 0 a).size = a := by rw [ByteArray.size_extract]; omega
      obtain ⟨bv, w6, hcv, hrow, b6, hnew⟩ := run_row_made wr (all.extract 0 a) (by omega)
      have hT6 := HA.out.below b6
      have hlt : p < wr.heap.size := HA.out.log.blk.lt
      have hl := hT6.log
      have c1 := hl.cells.c1
      have f1 := hl.cells.fr 1
      have f3 := hl.cells.fr 3
      have c3 : (w6.setCell ⟨p, 1, none⟩ bv).cell? ⟨p, 3, none⟩ = some (.int .i64 0) := (hl.blk.set 1 bv).cell 3
      have f3' : (w6.setCell ⟨p, 1, none⟩ bv).frozen? ⟨p, 3, none⟩ = false := (hl.blk.set 1 bv).frozen 3
      have HP : Hid (∃ bv' sv', LogAt ((w6.setCell ⟨p, 1, none⟩ bv).setCell ⟨p, 3, none⟩ (.int .i64 a)) p bv' sv' ⟨dp, all.data.toList.take a, st, a, false, 0⟩ ∧ Kept (fun k => k = p) w ((w6.setCell ⟨p, 1, none⟩ bv).setCell ⟨p, 3, none⟩ (.int .i64 a)) ∧ (∀ k, bv'.ownBlock = some k ∨ sv'.ownBlock = some k → w.heap.size ≤ k)) := by
        have hbp : ∀ k, bv.ownBlock = some k → k ≠ p := fun k hk e => by have := hnew k hk; omega
        have hsp : ∀ k, sv.ownBlock = some k → k ≠ p := fun k hk => hl.apart.2 k hk
        have hxl : (all.extract 0 a).data.toList = all.data.toList.take a := by simp [ByteArray.data_extract, List.extract_eq_take_drop]
        rw [hxl] at hrow
        refine ⟨bv, sv, ⟨(hl.blk.set 1 bv).set 3 (.int .i64 a), hrow.same fun g k => (heap_set _ _ _ _ (hbp g k)).trans (heap_set _ _ _ _ (hbp g k)), owns_same hl.starts fun g k => (heap_set _ _ _ _ (hsp g k)).trans (heap_set _ _ _ _ (hsp g k))⟩, (hT6.kept.trans (Kept.setCell _ _ _ _ _ rfl)).trans (Kept.setCell _ _ _ _ _ rfl), ?_⟩
        rintro k (hk | hk)
        · have := hnew k hk
          have := HA.out.kept.size
          omega
        · exact hT6.new k hk
      obtain ⟨ba, bc, hbv⟩ := hrow.slice
      rw [show (all.extract 0 a).data.toList.length = a from hxs ▸ (by simp)] at hbv
      subst hbv
      clear hT6 hl hsc hsc' HA hrow b6 hnew
      go_wp2
      go_end0
      refine ⟨rfl, ?_⟩
      rw [HSC.out]
      exact HP.out
    · have hfe := frameN_le hf
      have HF : Hid (frameN all a ≠ 0) := hf
      have hpos : (0 : Int) < (frameN all a : Int) := by omega
      have c2 := HA.out.log.cells.c2
      have hown := HA.out.log.starts
      obtain ⟨sa, sc, hsv⟩ := owns_slice hown
      have hfew := HA.out.few
      have hadd : IntKind.i64.wrap ((a : Int) + (frameN all a : Int)) = ((a + frameN all a : Nat) : Int) := by rw [IntKind.wrap_i64]; omega
      clear hf
      generalize hN : frameN all a = N at *
      go_wp2_with fail
      have HOWN : Hid (∀ (o : Obj) (W : World), W.heap = (wr.alloc o).heap → W.ownsRow 0 41 1 (.slice sa st.length sc) st.length (lsnCells st)) := by
        intro o W hW
        rw [← hsv]
        exact owns_same HA.out.log.starts fun g hg => by rw [hW]; exact Below.heap_alloc _ _ g (owns_lt HA.out.log.starts hg)
      have HNEW : Hid (∀ (x : Int) (W : World), W.heap = (wr.alloc (.cells #[.int .u64 x] 41)).heap → ∀ j u, [Value.int .u64 x][j]? = some u → W.cell? ((⟨wr.heap.size, 0, none⟩ : Addr).add j) = some u) := by
        intro x W hW j u hj
        exact World.news_of_block (by rw [hW]; exact heap_alloc_new wr _) j u hj
      have HC2 : Hid (∀ (o : Obj) (W w4 : World), W.heap = (wr.alloc o).heap → W.grownBy w4 (Value.slice sa st.length sc).ownBlock → w4.cell? ⟨p, 2, none⟩ = some (.slice sa st.length sc) ∧ w4.frozen? ⟨p, 2, none⟩ = false) := by
        intro o W w4 hW hg
        have hlt := HA.out.log.blk.lt
        have hp : sv.ownBlock ≠ some p := fun e => HA.out.log.apart.2 p e rfl
        have e : w4.heap[p]? = wr.heap[p]? := (hg.block p (by rw [hW]; simp; omega) (by rw [← hsv]; exact fun e => hp e.symm)).trans (by rw [hW]; exact Below.heap_alloc _ _ p hlt)
        refine ⟨(World.cell?_of_block (w := wr) (a := ⟨p, 2, none⟩) e).trans ?_, (World.frozen?_of_block (w := wr) (a := ⟨p, 2, none⟩) e).trans (HA.out.log.cells.fr 2)⟩
        rw [← hsv]
        exact HA.out.log.cells.c2
      rw [hsv] at c2
      have HO1 := hid (HOWN.out (.cells #[.int .u64 ((a : Int) + 1)] 41) ((wr.alloc (.cells #[.int .u64 ((a : Int) + 1)] 41)).drew) rfl)
      have HN1 := hid (HNEW.out ((a : Int) + 1) ((wr.alloc (.cells #[.int .u64 ((a : Int) + 1)] 41)).drew) rfl)
      have HC1 := hid (fun w4 => HC2.out (.cells #[.int .u64 ((a : Int) + 1)] 41) ((wr.alloc (.cells #[.int .u64 ((a : Int) + 1)] 41)).drew) w4 rfl)
      have H1C : Hid (∀ u ∈ [Value.int .u64 ((a : Int) + 1)], u.oneCell' = true) := by intro u hu; simp at hu; subst hu; rfl
      clear HOWN HNEW HC2
      have c2a : (wr.alloc (.cells #[.int .u64 ((a : Int) + 1)] 41)).cell? ⟨p, 2, none⟩ = some (.slice sa st.length sc) := by
        rw [← hsv]
        exact (World.cell?_of_block (w := wr) (a := ⟨p, 2, none⟩) (Below.heap_alloc _ _ p HA.out.log.blk.lt)).trans HA.out.log.cells.c2
      go_region_law (first | (go_simp; go_at_call 75; refine (lsn_any a _ (by omega)).mono ?_; rintro x w3 ⟨rfl, rfl⟩) | (refine step_append_lies _ (by rfl) _ _ 95 (by rfl) 0 41 i0 _ 1 8 Tryz.underlying95 hi hz0 hz1 hz2 (by rfl) (by decide) (.slice sa st.length sc) st.length (lsnCells st) (by rfl) HO1.out ⟨wr.heap.size, 0, none⟩ 1 1 [.int .u64 ((a : Int) + 1)] (by rfl) (by rfl) HN1.out H1C.out (by decide) (by unfold maxLen; omega) (by omega) (Nat.zero_le _) (wr.heap.size + 1) (by simp) ?_; intro g cap w4 hown4 hgrow4 hloc4 hlt4; have hc4 := HC1.out _ hgrow4; obtain ⟨c2', f2'⟩ := hc4))
      all_goals
        have HN2 : Hid (TakeAt w (w4.setCell ⟨p, 2, none⟩ (.slice (some ⟨g, 0, none⟩) (st.length + 1) cap)) p dp all (a + N) (.slice (some ⟨g, 0, none⟩) (st.length + 1) cap) (st ++ [a + 1])) := by
          have h1 : TakeAt w ((wr.alloc (.cells #[.int .u64 ((a : Int) + 1)] 41)).drew) p dp all a sv st := HA.out.below (((Below.refl _ _).alloc (Nat.le_refl _) _).drew)
          have h2 := h1.next (by rw [hN]; exact HF.out) hown4 (by rw [hsv]; exact hgrow4) (fun k hk => by
            simp only [Value.ownBlock, Option.some.injEq] at hk
            subst hk
            rw [hsv]
            rcases hloc4 with e | e
            · exact .inl e
            · right; simp; omega)
          rw [hN] at h2
          exact h2
        clear hown4 hgrow4 hloc4 hlt4 c2' f2' HO1 HN1 HC1 H1C c2 c2a
        go_wp2_with fail
        refine (frameAt_any all (a + N) _ (by omega) (by omega)).mono ?_
        rintro e w5 ⟨rfl, b5⟩
        have HN3 := hid (HN2.out.below b5)
        clear b5 HN2
        go_wp2_with fail
        exact ⟨⟨a + N, _, _, by simp, rfl, HN3⟩, by simp [intOf]; omega⟩

end Go.Proofs.YtgkfdakieebnmaaGreat

namespace Go.Proofs.YtgkfdakieebnmaaGreat
open Go.RowKit

def openL (p : Nat) (d : DG) : LG :=
  ⟨p, d.log.take (scan ⟨d.log.toArray⟩ (d.log.length + 1) 0).2, (scan ⟨d.log.toArray⟩ (d.log.length + 1) 0).1, (scan ⟨d.log.toArray⟩ (d.log.length + 1) 0).2, false, 0⟩

set_option maxHeartbeats 800000 in
set_option maxRecDepth 8000 in
theorem open_out {w : World} {p : Nat} {S : Nat → Prop} {d : DG} (h : IsDisk w p S d) (hd : d.dead = false) (hl : d.log.length ≤ 4194304) (ht : (scan ⟨d.log.toArray⟩ (d.log.length + 1) 0).2 = d.log.length) :
    Calls Tryz.prog 11 #[.pointer (some ⟨p, 0, none⟩)] w fun e w' => ∃ q, e = .returned (.tuple #[.pointer (some ⟨q, 0, none⟩), .int .i64 0, .int .i64 0]) ∧
      (∃ S', IsLog w' q S' (openL p d) ∧ ∀ k, S' k → w.heap.size ≤ k) ∧ Below w.heap.size w w' := by
  have hsz : (ByteArray.mk d.log.toArray).size = d.log.length := bytes_size _
  have HD : Hid (IsDisk w p S d) := h
  have HL : Hid (openL p d = ⟨p, (ByteArray.mk d.log.toArray).data.toList.take (scan ⟨d.log.toArray⟩ ((ByteArray.mk d.log.toArray).size + 1) 0).2, (scan ⟨d.log.toArray⟩ ((ByteArray.mk d.log.toArray).size + 1) 0).1, (scan ⟨d.log.toArray⟩ ((ByteArray.mk d.log.toArray).size + 1) 0).2, false, 0⟩) := by
    show _ = _
    rw [hsz]
    rfl
  have hT : (scan ⟨d.log.toArray⟩ ((ByteArray.mk d.log.toArray).size + 1) 0).2 = (ByteArray.mk d.log.toArray).size := by rw [hsz]; exact ht
  have HR : Hid (Calls Tryz.prog 31 #[.pointer (some ⟨p, 0, none⟩)] w fun x w' => x = .returned (.tuple #[.string ⟨d.log.toArray⟩, .int .i64 0]) ∧ Below w.heap.size w w') := readLog_out h hd
  generalize openL p d = L at *
  generalize ByteArray.mk d.log.toArray = all at *
  clear ht h
  go_enter Tryz.func11, Tryz.ntmps11
  go_wp2_with fail
  refine HR.out.mono ?_
  rintro e w1 ⟨rfl, b1⟩
  go_wp2_with fail
  have hlog : LogAt (w1.alloc (.cells (lvals (.slice none 0 0) (.slice none 0 0) (log0 p)) 97)) w1.heap.size (.slice none 0 0) (.slice none 0 0) (log0 p) :=
    ⟨Blk.made _ _ _, .inl ⟨rfl, rfl⟩, World.ownsRow_nil _ _ _ _⟩
  have hb1 : Below w.heap.size w (w1.alloc (.cells (lvals (.slice none 0 0) (.slice none 0 0) (log0 p)) 97)) := b1.alloc b1.size _
  refine (take_any _ w1.heap.size p all hlog (by omega)).mono ?_
  rintro e w2 ⟨rfl, bv, sv, hL, hK, hnew⟩
  rw [← HL.out] at hL
  have hb2 : Below w.heap.size w w2 := ⟨hK.os.trans hb1.os, hK.tape.trans hb1.tape, hK.output.trans hb1.output, Nat.le_trans hb1.size hK.size, fun k hk => (hK.block k (Nat.lt_of_lt_of_le hk hb1.size) (fun e => by have := b1.size; omega)).trans (hb1.block k hk)⟩
  have HF : Hid ((∃ S', IsLog w2 w1.heap.size S' L ∧ ∀ k, S' k → w.heap.size ≤ k) ∧ Below w.heap.size w w2) := by
    refine ⟨⟨lhas w1.heap.size bv sv, ⟨bv, sv, hL, fun _ x => x, fun k hk => hL.lt hk⟩, ?_⟩, hb2⟩
    have h1 := b1.size
    rintro k (hk | hk)
    · omega
    · have := hnew k hk; simp at this; omega
  have hfl : L.flushed = all.size := by rw [HL.out]; exact hT
  have c3 := hL.cells.c3
  rw [hfl] at c3
  clear hL hK hnew hb2 hb1 hlog b1 HR
  go_wp2
  go_ret3
  exact ⟨w1.heap.size, rfl, HF.out.1, HF.out.2⟩

theorem LogAt.bytesTo {w w3 : World} {p : Nat} {bv sv v' : Value} {l : LG} {b : List UInt8} (h : LogAt w p bv sv l) (hrow : ByteRow w3 v' b) (hg : w.grownBy w3 bv.ownBlock) (hl : ∀ k, v'.ownBlock = some k → bv.ownBlock = some k ∨ w.heap.size ≤ k) :
    LogAt (w3.setCell ⟨p, 1, none⟩ v') p v' sv { l with bytes := b } ∧ Kept (lhas p bv sv) w (w3.setCell ⟨p, 1, none⟩ v') ∧ w3.cell? ⟨p, 1, none⟩ = some bv ∧ w3.frozen? ⟨p, 1, none⟩ = false := by
  have ha := h.apart
  have hp : bv.ownBlock ≠ some p := fun e => (ha.1 p e).1 rfl
  have hlt := h.blk.lt
  have hblk : Blk w3 p (lvals bv sv l) 97 := h.blk.same (hg.block p hlt fun e => hp e.symm)
  have hvp : ∀ k, v'.ownBlock = some k → k ≠ p := by
    rintro k hk rfl
    rcases hl k hk with e | e
    · exact hp e
    · omega
  have hsv : ∀ g, sv.ownBlock = some g → (w3.setCell ⟨p, 1, none⟩ v').heap[g]? = w.heap[g]? := fun g k =>
    (heap_set _ _ _ _ (ha.2 g k)).trans (hg.block g (owns_lt h.starts k) fun e => (ha.1 g e.symm).2 k)
  exact ⟨⟨hblk.set 1 v', hrow.same fun g k => heap_set _ _ _ _ (hvp g k), owns_same h.starts hsv⟩, (Kept.of_grown hg fun b e => .inr (.inl e)).trans (Kept.setCell _ _ _ _ _ (.inl rfl)), hblk.cell 1, hblk.frozen 1⟩

theorem LogAt.startsTo {w w3 : World} {p : Nat} {bv sv v' : Value} {l : LG} {b : List Nat} (h : LogAt w p bv sv l) (hrow : w3.ownsRow 0 41 1 v' b.length (lsnCells b)) (hg : w.grownBy w3 sv.ownBlock) (hl : ∀ k, v'.ownBlock = some k → sv.ownBlock = some k ∨ w.heap.size ≤ k) :
    LogAt (w3.setCell ⟨p, 2, none⟩ v') p bv v' { l with starts := b } ∧ Kept (lhas p bv sv) w (w3.setCell ⟨p, 2, none⟩ v') ∧ w3.cell? ⟨p, 2, none⟩ = some sv ∧ w3.frozen? ⟨p, 2, none⟩ = false := by
  have ha := h.apart
  have hp : sv.ownBlock ≠ some p := fun e => ha.2 p e rfl
  have hlt := h.blk.lt
  have hblk : Blk w3 p (lvals bv sv l) 97 := h.blk.same (hg.block p hlt fun e => hp e.symm)
  have hvp : ∀ k, v'.ownBlock = some k → k ≠ p := by
    rintro k hk rfl
    rcases hl k hk with e | e
    · exact hp e
    · omega
  have hbv : ∀ g, bv.ownBlock = some g → (w3.setCell ⟨p, 2, none⟩ v').heap[g]? = w.heap[g]? := fun g k =>
    (heap_set _ _ _ _ (ha.1 g k).1).trans (hg.block g (h.bytes.lt k) fun e => (ha.1 g k).2 e.symm)
  exact ⟨⟨hblk.set 2 v', h.bytes.same hbv, owns_same hrow fun g k => heap_set _ _ _ _ (hvp g k)⟩, (Kept.of_grown hg fun b e => .inr (.inr e)).trans (Kept.setCell _ _ _ _ _ (.inl rfl)), hblk.cell 2, hblk.frozen 2⟩

def putG (l : LG) (s : ByteArray) : LG := { l with bytes := l.bytes ++ frameL (l.bytes.length + 1) s.data.toList, starts := l.starts ++ [l.bytes.length + 1] }

section
variable {w : World} {p : Nat} {S : Nat → Prop} {l : LG}

set_option maxHeartbeats 800000 in
set_option maxRecDepth 8000 in
theorem put_ok (h : IsLog w p S l) (hb : l.bytes.length ≤ 4194304) (hn : l.starts.length ≤ 10000000) (s : ByteArray) (h1 : 1 ≤ s.size) (h2 : s.size ≤ 8192) (most : Int) (hm : (s.size : Int) + 12 ≤ most) :
    Calls Tryz.prog 56 #[.pointer (some ⟨p, 0, none⟩), .string s, .int .i64 most] w fun e w' => e = .returned (.tuple #[.int .u64 ((l.bytes.length + 1 : Nat) : Int), .int .i64 0]) ∧ ∃ S', IsLog w' p S' (putG l s) ∧ Moves S S' w w' := by
  obtain ⟨i0, hi, hz0, hz1, hz2⟩ := info_parts infoL
  go_enter Tryz.func56, Tryz.ntmps56
  go_wp2_with fail
  refine (end_out h hb).mono ?_
  rintro e w1 ⟨rfl, rfl⟩
  go_wp2_with fail
  refine (frame_ok (l.bytes.length + 1) s _ (by omega) (by omega) h1 h2).mono ?_
  rintro e w2 ⟨rfl, b2⟩
  have hz := frameB_size (l.bytes.length + 1) s
  have d1 : decide (most < (((frameB (l.bytes.length + 1) s).size : Nat) : Int)) = false := by rw [hz]; simp; omega
  have HFB : Hid ((frameB (l.bytes.length + 1) s).data.toList = frameL (l.bytes.length + 1) s.data.toList) := by show _ = _; simp [frameB]
  generalize frameB (l.bytes.length + 1) s = f at *
  obtain ⟨bv, sv, hL, hS, _⟩ := h
  have hL2 : LogAt w2 p bv sv l := hL.same fun k hk => b2.block k (hL.lt hk)
  obtain ⟨ba, bc, hbv⟩ := hL2.bytes.slice
  obtain ⟨sa, sc, hsv⟩ := owns_slice hL2.starts
  have HL : Hid (LogAt w1 p bv sv l) := hL
  have HS := hid hS
  have HL2 := hid hL2
  have HB2 := hid b2
  have c1 := hL2.cells.c1
  rw [hbv] at c1
  have hrow := hL2.bytes
  rw [hbv] at hrow
  clear hL hS hL2 b2
  go_wp2_with (at_builtin; refine wpList_row_text _ rfl _ _ rfl (.slice ba l.bytes.length bc) l.bytes rfl hrow f rfl (by omega) ?_)
  intro v' w3 hrow' hgrow hloc
  rw [← hbv] at hgrow hloc
  obtain ⟨hL3, hK3, c1', f1'⟩ := HL2.out.bytesTo hrow' hgrow hloc
  rw [hbv] at c1'
  have HL3 := hid hL3
  have HK3 := hid hK3
  have HB3 := hid hloc
  obtain ⟨va, vc, hv'⟩ := hrow'.slice
  have hfl : (l.bytes ++ f.data.toList).length = l.bytes.length + (s.size + 12) := by simp [hz]
  rw [hfl] at hv'
  subst hv'
  have c2w : w3.cell? ⟨p, 2, none⟩ = some (.slice sa l.starts.length sc) := by
    have hp : bv.ownBlock ≠ some p := fun e => (HL2.out.apart.1 p e).1 rfl
    rw [← hsv]
    exact (World.cell?_of_block (w := w2) (a := ⟨p, 2, none⟩) (hgrow.block p HL2.out.blk.lt fun e => hp e.symm)).trans HL2.out.cells.c2
  clear hL3 hK3 hloc hgrow hrow hrow' c1
  have hlt3 : p < (w3.setCell ⟨p, 1, none⟩ (.slice va (l.bytes.length + (s.size + 12)) vc)).heap.size := HL3.out.blk.lt
  have hlt3' : p < w3.heap.size := by simpa using hlt3
  have hown3 : ((w3.setCell ⟨p, 1, none⟩ (.slice va (l.bytes.length + (s.size + 12)) vc)).alloc (.cells #[.int .u64 ((l.bytes.length : Int) + 1)] 41)).ownsRow 0 41 1 (.slice sa l.starts.length sc) l.starts.length (lsnCells l.starts) := by
    rw [← hsv]
    exact owns_same HL3.out.starts fun g hg => Below.heap_alloc _ _ g (owns_lt HL3.out.starts hg)
  have hnews : ∀ j u, [Value.int .u64 ((l.bytes.length : Int) + 1)][j]? = some u → ((w3.setCell ⟨p, 1, none⟩ (.slice va (l.bytes.length + (s.size + 12)) vc)).alloc (.cells #[.int .u64 ((l.bytes.length : Int) + 1)] 41)).cell? ((⟨w3.heap.size, 0, none⟩ : Addr).add j) = some u := by
    have := World.news_of_block (heap_alloc_new (w3.setCell ⟨p, 1, none⟩ (.slice va (l.bytes.length + (s.size + 12)) vc)) (.cells #[.int .u64 ((l.bytes.length : Int) + 1)] 41))
    simpa using this
  go_wp2_with (at_builtin; refine wpList_append_own_at _ rfl _ _ 95 rfl 0 41 i0 (.int .u64 0) 1 8 Tryz.underlying95 hi hz0 hz1 hz2 rfl (by decide) (.slice sa l.starts.length sc) l.starts.length (lsnCells l.starts) rfl hown3 ⟨w3.heap.size, 0, none⟩ 1 1 [.int .u64 ((l.bytes.length : Int) + 1)] rfl rfl hnews (by intro u hu; simp at hu; subst hu; rfl) (by unfold maxLen; omega) (by omega) (Nat.zero_le _) ?_)
  intro v2 w4 hown4 hgrow4 hiff4 hloc4
  have hL3' : LogAt ((w3.setCell ⟨p, 1, none⟩ (.slice va (l.bytes.length + (s.size + 12)) vc)).alloc (.cells #[.int .u64 ((l.bytes.length : Int) + 1)] 41)) p (.slice va (l.bytes.length + (s.size + 12)) vc) sv { l with bytes := l.bytes ++ f.data.toList } :=
    HL3.out.same fun k hk => Below.heap_alloc _ _ k (HL3.out.lt hk)
  rw [← hsv] at hgrow4 hloc4
  have hown5 : w4.ownsRow 0 41 1 v2 (l.starts ++ [l.bytes.length + 1]).length (lsnCells (l.starts ++ [l.bytes.length + 1])) := by
    have e : (l.starts ++ [l.bytes.length + 1]).length = l.starts.length + 1 := by simp
    rw [e, ← lsn_push]
    exact hown4
  have hlo : ∀ k, v2.ownBlock = some k → sv.ownBlock = some k ∨ ((w3.setCell ⟨p, 1, none⟩ (.slice va (l.bytes.length + (s.size + 12)) vc)).alloc (.cells #[.int .u64 ((l.bytes.length : Int) + 1)] 41)).heap.size ≤ k := by
    intro k hk
    rcases hloc4 with e | e
    · exact .inl (by rw [← e]; exact hk)
    · rw [e] at hk; have := Option.some.inj hk; right; simp; omega
  obtain ⟨hL5, hK5, c2', f2'⟩ := hL3'.startsTo hown5 hgrow4 hlo
  rw [hsv] at c2'
  have HF : Hid (∃ S', IsLog (w4.setCell ⟨p, 2, none⟩ v2) p S' (putG l s) ∧ Moves S S' w1 (w4.setCell ⟨p, 2, none⟩ v2)) := by
    have hz2 := HB2.out.size
    have e : putG l s = { ({ l with bytes := l.bytes ++ f.data.toList } : LG) with starts := l.starts ++ [l.bytes.length + 1] } := by
      unfold putG
      rw [HFB.out]
    rw [e]
    have m1 : Moves (lhas p bv sv) (lhas p (.slice va (l.bytes.length + (s.size + 12)) vc) sv) w1 ((w3.setCell ⟨p, 1, none⟩ (.slice va (l.bytes.length + (s.size + 12)) vc)).alloc (.cells #[.int .u64 ((l.bytes.length : Int) + 1)] 41)) := by
      refine ⟨((Kept.of_below HB2.out).trans HK3.out).trans (Kept.alloc _ _ _), ?_⟩
      rintro k (x | x | x)
      · exact .inl (.inl x)
      · rcases HB3.out k x with y | y
        · exact .inl (.inr (.inl y))
        · exact .inr (by omega)
      · exact .inl (.inr (.inr x))
    have m2 : Moves (lhas p (.slice va (l.bytes.length + (s.size + 12)) vc) sv) (lhas p (.slice va (l.bytes.length + (s.size + 12)) vc) v2) ((w3.setCell ⟨p, 1, none⟩ (.slice va (l.bytes.length + (s.size + 12)) vc)).alloc (.cells #[.int .u64 ((l.bytes.length : Int) + 1)] 41)) (w4.setCell ⟨p, 2, none⟩ v2) := by
      refine ⟨hK5, ?_⟩
      rintro k (x | x | x)
      · exact .inl (.inl x)
      · exact .inl (.inr (.inl x))
      · rcases hlo k x with y | y
        · exact .inl (.inr (.inr y))
        · exact .inr y
    have m := m1.trans m2
    exact ⟨lhas p (.slice va (l.bytes.length + (s.size + 12)) vc) v2, ⟨_, _, hL5, fun _ x => x, fun k hk => hL5.lt hk⟩, m.1.mono fun k x => HS.out k x, fun k x => (m.2 k x).imp (HS.out k) id⟩
  obtain ⟨a2, c2, hv2⟩ := owns_slice hown5
  rw [show (l.starts ++ [l.bytes.length + 1]).length = l.starts.length + 1 by simp] at hv2
  subst hv2
  clear hL5 hK5 hlo hown5 hloc4 hgrow4 hown4 hiff4 hL3' hnews hown3 HL3 HK3 HB3
  go_wp2
  go_ret2
  exact ⟨rfl, HF.out⟩

theorem IsLog.cell5 (h : IsLog w p S l) : w.cell? ⟨p, 5, none⟩ = some (.int .i64 l.kept) := by
  obtain ⟨_, _, hL, _⟩ := h
  exact hL.cells.c5

theorem Moves.undrew {S S' : Nat → Prop} {w w' : World} (h : Moves S S' w.drew w') : Moves S S' w w' := ⟨⟨h.1.os, h.1.tape, h.1.output, h.1.size, h.1.block⟩, h.2⟩

set_option maxHeartbeats 400000 in
set_option maxRecDepth 60000 in
theorem append_out (h : IsLog w p S l) (hb : l.bytes.length ≤ 4194304) (hn : l.starts.length ≤ 10000000) (hk : l.kept ≤ 4194304) (s : ByteArray) (h1 : 1 ≤ s.size) (h2 : s.size ≤ 8192) (hm : s.size + 12 + l.kept + l.bytes.length ≤ 4194304) :
    Calls Tryz.prog 21 #[.pointer (some ⟨p, 0, none⟩), .string s] w fun e w' => e = .returned (.tuple #[.int .u64 ((l.bytes.length + 1 : Nat) : Int), .int .i64 0]) ∧ ∃ S', IsLog w' p S' (putG l s) ∧ Moves S S' w w' := by
  have hD : IsLog w.drew p S l := h.same (fun _ _ => rfl) (Nat.le_refl _)
  have HR := hid (room_out hD hb)
  have HP := hid (put_ok hD hb hn s h1 h2 ((4194304 : Int) - (l.bytes.length : Int) - (l.kept : Int)) (by omega))
  have c5 := h.cell5
  have hsub : IntKind.i64.wrap ((4194304 : Int) - (l.bytes.length : Int) - (l.kept : Int)) = (4194304 : Int) - (l.bytes.length : Int) - (l.kept : Int) := by rw [IntKind.wrap_i64]; omega
  go_enter Tryz.func21, Tryz.ntmps21
  go_wp2_with fail
  go_region_held3 (fun w' => w'.cell? ⟨p, 5, none⟩ = some (.int .i64 l.kept)) (first | go_keep | assumption | exact hc5)
    (first | (go_at_call 57; refine HR.out.mono ?_; rintro x w3 ⟨rfl, rfl⟩) | (go_at_call 56; refine HP.out.mono ?_; rintro x w4 ⟨rfl, S4, hL4, hM4⟩; have hc5 : w4.cell? ⟨p, 5, none⟩ = some (.int .i64 l.kept) := hL4.cell5))
  go_wp2
  go_ret2
  exact ⟨rfl, S4, hL4, hM4.undrew⟩

end

end Go.Proofs.YtgkfdakieebnmaaGreat

namespace Go.Proofs.YtgkfdakieebnmaaGreat
open Go.RowKit

theorem nan1_any (x : Int) (w : World) : Calls Tryz.prog 151 #[.int .u64 x] w fun e w' => e = .returned (.bool false) ∧ w' = w := by
  go_enter Tryz.func151, Tryz.ntmps151
  go_wp2
  go_ret
  exact ⟨by simp, rfl⟩

theorem nan2_any (x : Int) (w : World) : Calls Tryz.prog 179 #[.int .u64 x] w fun e w' => e = .returned (.bool false) ∧ w' = w := by
  go_enter Tryz.func179, Tryz.ntmps179
  go_wp2
  go_ret
  exact ⟨by simp, rfl⟩

theorem less_any (x y : Int) (w : World) : Calls Tryz.prog 178 #[.int .u64 x, .int .u64 y] w fun e w' => e = .returned (.bool (decide (x < y))) ∧ w' = w := by
  go_enter Tryz.func178, Tryz.ntmps178
  go_wp2_with (go_at_call 151; refine (nan1_any _ _).mono ?_; rintro e w' ⟨rfl, rfl⟩)
  go_ret
  exact ⟨rfl, rfl⟩

def Found (L : List Nat) (x i : Nat) (b : Bool) : Prop :=
  i ≤ L.length ∧ (∀ t, t < i → L.getD t 0 < x) ∧ (∀ t, i ≤ t → t < L.length → x ≤ L.getD t 0) ∧ b = decide (i < L.length ∧ L.getD i 0 = x)

set_option maxHeartbeats 2000000 in
set_option maxRecDepth 100000 in
theorem search_row (L : List Nat) (x : Nat) (g cap : Nat) (w : World) (hc : ∀ j, j < L.length → w.cell? ⟨g, j, none⟩ = some (.int .u64 (L.getD j 0 : Nat))) (hn : L.length ≤ 10000000) (hs : ∀ a b, a ≤ b → b < L.length → L.getD a 0 ≤ L.getD b 0) :
    Calls Tryz.prog 145 #[.slice (some ⟨g, 0, none⟩) L.length cap, .int .u64 x] w fun e w' => (∃ i b, e = .returned (.tuple #[.int .i64 (i : Nat), .bool b]) ∧ Found L x i b) ∧ ∃ q, w' = w.drewN q := by
  have S := hid hs
  clear hs
  obtain ⟨n, hnn⟩ : ∃ n, L.length = n := ⟨_, rfl⟩
  unfold Found
  rw [hnn] at hc S hn ⊢
  clear hnn
  go_enter Tryz.func145, Tryz.ntmps145
  go_wp2
  go_loopg [7, 8] n (fun m s7 s8 wr => ∃ lo hi q : Nat, s7 = .int .i64 lo ∧ s8 = .int .i64 hi ∧ lo ≤ hi ∧ hi ≤ n ∧ hi - lo ≤ m ∧ wr = w.drewN q ∧ Hid ((∀ t, t < lo → L.getD t 0 < x) ∧ (∀ t, hi ≤ t → t < n → x ≤ L.getD t 0)))
  case atStart => exact ⟨0, n, 0, rfl, rfl, Nat.zero_le _, Nat.le_refl _, by omega, rfl, (⟨fun t ht => absurd ht (Nat.not_lt_zero _), fun t h1 h2 => by omega⟩ : (∀ t, t < 0 → L.getD t 0 < x) ∧ (∀ t, n ≤ t → t < n → x ≤ L.getD t 0))⟩
  case round =>
    obtain ⟨lo, hi, q, rfl, rfl, hlh, hin, hg, rfl, I⟩ := hrel
    by_cases hlt : lo < hi
    · have cm : w.cell? ⟨g, (lo + hi) / 2, none⟩ = some (.int .u64 (L.getD ((lo + hi) / 2) 0 : Nat)) := hc _ (by omega)
      clear hc
      have Y : Hid (∃ y, L.getD ((lo + hi) / 2) 0 = y) := ⟨_, rfl⟩
      obtain ⟨y, hy⟩ := Y.out
      rw [hy] at cm
      have Y : Hid (L.getD ((lo + hi) / 2) 0 = y) := hy
      clear hy
      by_cases hyx : y < x
      · go_wp2_with (first | (go_at_call 178; refine (less_any _ _ _).mono ?_; rintro e w' ⟨rfl, rfl⟩) | (go_at_call 179; refine (nan2_any _ _).mono ?_; rintro e w' ⟨rfl, rfl⟩))
        go_roundg (hi - ((lo + hi) / 2 + 1))
        case measure => omega
        case rel =>
          refine ⟨(lo + hi) / 2 + 1, hi, _, by rw [show ((lo : Int) + (hi : Int)) / 2 + 1 = (((lo + hi) / 2 + 1 : Nat) : Int) by omega], rfl, by omega, hin, Nat.le_refl _, rfl, ?_⟩
          refine ⟨fun t ht => ?_, I.out.2⟩
          have := S.out t ((lo + hi) / 2) (by omega) (by omega)
          rw [Y.out] at this
          omega
      · go_wp2_with (first | (go_at_call 178; refine (less_any _ _ _).mono ?_; rintro e w' ⟨rfl, rfl⟩) | (go_at_call 179; refine (nan2_any _ _).mono ?_; rintro e w' ⟨rfl, rfl⟩))
        go_roundg ((lo + hi) / 2 - lo)
        case measure => omega
        case rel =>
          refine ⟨lo, (lo + hi) / 2, _, rfl, by rw [show ((lo : Int) + (hi : Int)) / 2 = (((lo + hi) / 2 : Nat) : Int) by omega], by omega, by omega, Nat.le_refl _, rfl, ?_⟩
          refine ⟨I.out.1, fun t ht htn => ?_⟩
          have := S.out ((lo + hi) / 2) t ht htn
          rw [Y.out] at this
          omega
    · have : hi = lo := by omega
      subst this
      by_cases hn' : hi < n
      · have cl : w.cell? ⟨g, hi, none⟩ = some (.int .u64 (L.getD hi 0 : Nat)) := hc _ (by omega)
        clear hc
        have Y : Hid (∃ y, L.getD hi 0 = y) := ⟨_, rfl⟩
        obtain ⟨y, hy⟩ := Y.out
        rw [hy] at cl
        have Y : Hid (L.getD hi 0 = y) := hy
        clear hy
        by_cases hyx : y = x
        · have hyx' : ((y : Int) == (x : Int)) = true := by simp [hyx]
          have HE := hid hyx
          clear hyx
          go_wp2_with (first | (go_at_call 178; refine (less_any _ _ _).mono ?_; rintro e w' ⟨rfl, rfl⟩) | (go_at_call 179; refine (nan2_any _ _).mono ?_; rintro e w' ⟨rfl, rfl⟩))
          go_ret2
          exact ⟨⟨hi, true, rfl, hin, I.out.1, I.out.2, (decide_eq_true ⟨hn', Y.out.trans HE.out⟩).symm⟩, _, rfl⟩
        · have hyx' : ((y : Int) == (x : Int)) = false := by rw [beq_eq_false_iff_ne]; omega
          have HE := hid hyx
          clear hyx
          go_wp2_with (first | (go_at_call 178; refine (less_any _ _ _).mono ?_; rintro e w' ⟨rfl, rfl⟩) | (go_at_call 179; refine (nan2_any _ _).mono ?_; rintro e w' ⟨rfl, rfl⟩))
          go_ret2
          exact ⟨⟨hi, false, rfl, hin, I.out.1, I.out.2, (decide_eq_false fun h => HE.out (Y.out.symm.trans h.2)).symm⟩, _, rfl⟩
      · clear hc
        go_wp2_with (first | (go_at_call 178; refine (less_any _ _ _).mono ?_; rintro e w' ⟨rfl, rfl⟩) | (go_at_call 179; refine (nan2_any _ _).mono ?_; rintro e w' ⟨rfl, rfl⟩))
        go_ret2
        exact ⟨⟨hi, false, rfl, hin, I.out.1, I.out.2, (decide_eq_false fun h => hn' h.1).symm⟩, _, rfl⟩

theorem search_nil (x : Nat) (w : World) :
    Calls Tryz.prog 145 #[.slice none 0 0, .int .u64 x] w fun e w' => (∃ i b, e = .returned (.tuple #[.int .i64 (i : Nat), .bool b]) ∧ Found [] x i b) ∧ ∃ q, w' = w.drewN q := by
  go_enter Tryz.func145, Tryz.ntmps145
  go_wp2
  go_loopg [7, 8] 0 (fun m s7 s8 wr => s7 = .int .i64 0 ∧ s8 = .int .i64 0 ∧ wr = w)
  case atStart => exact ⟨rfl, rfl, rfl⟩
  case round =>
    obtain ⟨rfl, rfl, rfl⟩ := hrel
    go_wp2_with (first | (go_at_call 178; refine (less_any _ _ _).mono ?_; rintro e w' ⟨rfl, rfl⟩) | (go_at_call 179; refine (nan2_any _ _).mono ?_; rintro e w' ⟨rfl, rfl⟩))
    go_ret2
    exact ⟨⟨0, false, rfl, Nat.le_refl _, fun t h => absurd h (Nat.not_lt_zero _), fun t _ h => absurd h (Nat.not_lt_zero _), by simp⟩, 0, rfl⟩

def Rising (L : List Nat) : Prop := ∀ a b, a < b → b < L.length → L.getD a 0 < L.getD b 0

section
variable {w : World} {p : Nat} {S : Nat → Prop} {l : LG}

theorem find_out (h : IsLog w p S l) (hr : Rising l.starts) (hn : l.starts.length ≤ 10000000) (x : Nat) :
    Calls Tryz.prog 84 #[.pointer (some ⟨p, 0, none⟩), .int .u64 x] w fun e w' => (∃ i b, e = .returned (.tuple #[.int .i64 (i : Nat), .bool b]) ∧ Found l.starts x i b) ∧ ∃ q, w' = w.drewN q := by
  obtain ⟨bv, sv, hL, _⟩ := h
  have c2 := hL.cells.c2
  have HC : Hid (Calls Tryz.prog 145 #[sv, .int .u64 x] w fun e w' => (∃ i b, e = .returned (.tuple #[.int .i64 (i : Nat), .bool b]) ∧ Found l.starts x i b) ∧ ∃ q, w' = w.drewN q) := by
    have ho := hL.starts
    rcases ho.2 with ⟨e1, e2⟩ | ⟨g, cap, cur, e1, _⟩
    · rw [e1, List.eq_nil_of_length_eq_zero e2]
      exact search_nil x w
    · rw [e1]
      refine search_row l.starts x g cap w (fun j hj => ?_) hn (fun a b hab hb => ?_)
      · rw [e1] at ho
        have := owns_cells ho j (.int .u64 (l.starts.getD j 0 : Nat)) (by simp [lsnCells, hj])
        simpa [Addr.add_lit] using this
      · rcases Nat.eq_or_lt_of_le hab with rfl | k
        · exact Nat.le_refl _
        · exact Nat.le_of_lt (hr a b k hb)
  obtain ⟨a, c, rfl⟩ := owns_slice hL.starts
  clear hL
  go_enter Tryz.func84, Tryz.ntmps84
  go_wp2_with fail
  refine HC.out.mono ?_
  rintro e w1 ⟨⟨i, b, rfl, hf⟩, q, rfl⟩
  have HF := hid hf
  clear hf HC
  go_wp2
  go_ret2
  exact ⟨⟨i, b, rfl, HF.out⟩, q, rfl⟩

theorem Found.here {L : List Nat} {x i j : Nat} {b : Bool} (h : Found L x i b) (hr : Rising L) (hj : j < L.length) (hx : L.getD j 0 = x) : i = j ∧ b = true := by
  obtain ⟨h1, h2, h3, h4⟩ := h
  have e1 : ¬ j < i := fun k => by have := h2 j k; omega
  have e2 : ¬ i < j := fun k => by have a := hr i j k hj; have b := h3 i (Nat.le_refl _) (by omega); omega
  have e : i = j := by omega
  exact ⟨e, by rw [h4, e]; exact decide_eq_true ⟨hj, hx⟩⟩

theorem ByteRow.text {w : World} {g n cap : Nat} {l : List UInt8} (h : ByteRow w (.slice (some ⟨g, 0, none⟩) n cap) l) (a k c : Nat) (hk : a + k ≤ l.length) :
    (convert 90 9 (.slice (some ⟨g, a, none⟩) k c)).run Tryz.prog w = .ok (.string ⟨((l.drop a).take k).toArray⟩) w := by
  have hl : ((l.drop a).take k).length = k := by simp; omega
  have := run_convert_bytes_back (P := Tryz.prog) w 90 9 5 ⟨g, a, none⟩ c ((l.drop a).take k) Tryz.underlying90 Tryz.underlying5 Tryz.underlying9 (fun j hj => by
    rw [hl] at hj
    have e := h.cell (a + j) (by omega)
    simp only [List.getElem_take, List.getElem_drop]
    simpa [Addr.add_lit] using e)
  rw [hl] at this
  exact this

def recB (l : LG) (x B : Nat) : ByteArray := ⟨((l.bytes.drop (x + 7)).take (B - x - 12)).toArray⟩

set_option maxHeartbeats 400000 in
set_option maxRecDepth 8000 in
theorem get_last (h : IsLog w p S l) (hr : Rising l.starts) (hn : l.starts.length ≤ 10000000) (hb : l.bytes.length ≤ 4194304) (i x B : Nat) (hi : i + 1 = l.starts.length) (hx : l.starts.getD i 0 = x) (h1 : 1 ≤ x) (h2 : x + 12 ≤ B) (h3 : B = l.bytes.length + 1) :
    Calls Tryz.prog 36 #[.pointer (some ⟨p, 0, none⟩), .int .u64 x] w fun e w' => e = .returned (.tuple #[.string (recB l x B), .int .u64 (B : Nat), .bool true]) ∧ ∃ q, w' = w.drewN q := by
  go_enter Tryz.func36, Tryz.ntmps36
  go_wp2_with fail
  refine (find_out h hr hn x).mono ?_
  rintro e w1 ⟨⟨i', b, rfl, hf⟩, q, rfl⟩
  obtain ⟨rfl, rfl⟩ := hf.here hr (by omega) hx
  have hD : IsLog (w.drewN q) p S l := h.same (fun _ _ => rfl) (Nat.le_refl _)
  go_wp2_with fail
  refine (end_out hD hb).mono ?_
  rintro e w1 ⟨rfl, rfl⟩
  have HD := hid hD
  obtain ⟨bv, sv, hL, _⟩ := h
  have c1 := hL.cells.c1
  have c2 := hL.cells.c2
  obtain ⟨sa, sc, rfl⟩ := owns_slice hL.starts
  rcases hL.bytes with ⟨e1, e2⟩ | ⟨g, cap, cur, fz, e1, hg, hfz, hlc, hcm, hcs, htk⟩
  · exfalso
    rw [e2] at h3
    simp at h3
    omega
  have hrow := hL.bytes
  rw [e1] at hrow c1
  clear hL
  have k1 : ((i' : Int) + 1 < (l.starts.length : Int)) ↔ False := by simp; omega
  have hcv := ByteRow.text (w := w.drewN q) (hrow.same fun _ _ => rfl) (x - 1 + 8) (l.bytes.length - (x - 1) - 4 - 8) (cap - (x - 1) - 8) (by omega)
  have HE : Hid (ByteArray.mk ((l.bytes.drop (x - 1 + 8)).take (l.bytes.length - (x - 1) - 4 - 8)).toArray = recB l x B) := by
    unfold recB
    rw [show x - 1 + 8 = x + 7 by omega, show l.bytes.length - (x - 1) - 4 - 8 = B - x - 12 by omega]
    exact rfl
  rw [HE.out] at hcv
  clear hrow
  go_wp2
  go_ret3
  exact ⟨by rw [h3]; rfl, q, rfl⟩

end

end Go.Proofs.YtgkfdakieebnmaaGreat

namespace Go.Proofs.YtgkfdakieebnmaaGreat
open Go.RowKit

section
variable {w : World} {p : Nat} {S : Nat → Prop} {l : LG}

set_option maxHeartbeats 400000 in
set_option maxRecDepth 8000 in
theorem missing_out (h : IsLog w p S l) (hh : l.half = false) (hf : l.flushed < l.bytes.length) (hb : l.bytes.length ≤ 4194304) :
    Calls Tryz.prog 74 #[.pointer (some ⟨p, 0, none⟩)] w fun e w' => e = .returned (.string ⟨(l.bytes.drop l.flushed).toArray⟩) ∧ w' = w.drew := by
  obtain ⟨bv, sv, hL, _⟩ := h
  have c1 := hL.cells.c1
  have c3 := hL.cells.c3
  have c4 := hL.cells.c4
  rw [hh] at c4
  rcases hL.bytes with ⟨e1, e2⟩ | ⟨g, cap, cur, fz, e1, hg, hfz, hlc, hcm, hcs, htk⟩
  · rw [e2] at hf; simp at hf
  have hrow := hL.bytes
  rw [e1] at hrow c1
  have HCV : Hid (∀ W : World, W.heap = w.heap → (convert 90 9 (.slice (some ⟨g, l.flushed, none⟩) (l.bytes.length - l.flushed) (cap - l.flushed))).run Tryz.prog W = .ok (.string ⟨(l.bytes.drop l.flushed).toArray⟩) W) := by
    intro W hW
    have := ByteRow.text (w := W) (hrow.same fun _ _ => by rw [hW]) l.flushed (l.bytes.length - l.flushed) (cap - l.flushed) (by omega)
    rw [List.take_of_length_le (by simp)] at this
    exact this
  have hcap : cap ≠ l.flushed := by omega
  have i1 : (0 : Int) ≤ (l.flushed : Int) := by omega
  have i2 : (l.flushed : Int) ≤ (l.bytes.length : Int) := by omega
  clear hL hrow hg htk hfz e1
  go_enter Tryz.func74, Tryz.ntmps74
  go_wp2
  go_region_held3 (fun w' => w'.cell? ⟨p, 1, none⟩ = some (.slice (some ⟨g, 0, none⟩) l.bytes.length cap) ∧ w'.cell? ⟨p, 3, none⟩ = some (.int .i64 l.flushed) ∧ (convert 90 9 (.slice (some ⟨g, l.flushed, none⟩) (l.bytes.length - l.flushed) (cap - l.flushed))).run Tryz.prog w' = .ok (.string ⟨(l.bytes.drop l.flushed).toArray⟩) w')
    (first | exact ⟨c1, c3, HCV.out _ rfl⟩ | go_keep) (fail)
  go_wp2
  go_ret
  exact ⟨rfl, rfl⟩

theorem IsLog.set {v : Value} {i : Nat} {l' : LG} (h : IsLog w p S l) (hv : ∀ bv sv, (lvals bv sv l).setIfInBounds i v = lvals bv sv l') (e1 : l'.bytes = l.bytes) (e2 : l'.starts = l.starts) : IsLog (w.setCell ⟨p, i, none⟩ v) p S l' := by
  obtain ⟨bv, sv, hL, h1, h2⟩ := h
  have ha := hL.apart
  refine ⟨bv, sv, ⟨?_, ?_, ?_⟩, h1, fun k hk => by simpa using h2 k hk⟩
  · rw [← hv]; exact hL.blk.set i v
  · rw [e1]; exact hL.bytes.same fun g k => heap_set _ _ _ _ (ha.1 g k).1
  · rw [e2]; exact owns_same hL.starts fun g k => heap_set _ _ _ _ (ha.2 g k)

theorem IsLog.c0 (h : IsLog w p S l) : w.cell? ⟨p, 0, none⟩ = some (.pointer (some ⟨l.dp, 0, none⟩)) := by
  obtain ⟨_, _, hL, _⟩ := h
  exact hL.cells.c0

theorem IsLog.has (h : IsLog w p S l) : S p := by
  obtain ⟨bv, sv, hL, h1, h2⟩ := h
  exact h1 p (.inl rfl)

theorem IsLog.lcells (h : IsLog w p S l) : ∃ ba bc sv, LCells w p (.slice ba l.bytes.length bc) sv l := by
  obtain ⟨bv, sv, hL, h1, h2⟩ := h
  obtain ⟨a, c, rfl⟩ := hL.bytes.slice
  exact ⟨a, c, sv, hL.cells⟩

def flushD (l : LG) (d : DG) : DG := { putD d ⟨(l.bytes.drop l.flushed).toArray⟩ with calls := d.calls + 1 + 1, sl := (putD d ⟨(l.bytes.drop l.flushed).toArray⟩).log.length }

set_option maxHeartbeats 800000 in
set_option maxRecDepth 8000 in
theorem flush_out {D : Nat → Prop} {d : DG} (h : IsLog w p S l) (hd : IsDisk w l.dp D d) (ha : ∀ k, S k → ¬ D k) (hh : l.half = false) (hf : l.flushed < l.bytes.length) (hb : l.bytes.length ≤ 4194304)
    (d1 : d.dead = false) (d2 : d.plan = []) (d3 : d.calls ≤ 100000) (d4 : d.log.length = l.flushed) (up : Nat) (hto : l.flushed + 1 ≤ up) :
    Calls Tryz.prog 25 #[.pointer (some ⟨p, 0, none⟩), .int .u64 up] w fun e w' => e = .returned (.int .i64 0) ∧
      ∃ D', IsLog w' p S { l with flushed := l.bytes.length } ∧ IsDisk w' l.dp D' (flushD l d) ∧ (∀ k, S k → ¬ D' k) ∧ (∀ k, D' k → D k ∨ w.heap.size ≤ k) ∧ Kept (fun k => S k ∨ D k) w w' := by
  have hsz : (ByteArray.mk (l.bytes.drop l.flushed).toArray).size = l.bytes.length - l.flushed := by rw [bytes_size]; simp
  have HM : Hid (∀ W : World, W.heap = w.heap → Calls Tryz.prog 74 #[.pointer (some ⟨p, 0, none⟩)] W fun e w' => e = .returned (.string ⟨(l.bytes.drop l.flushed).toArray⟩) ∧ w' = W.drew) := fun W hW => missing_out (h.same (fun k hk => by rw [hW]) (by rw [hW]; exact Nat.le_refl _)) hh hf hb
  have HFL : Hid (∀ W : World, W.heap = w.heap → Calls Tryz.prog 72 #[.pointer (some ⟨p, 0, none⟩)] W fun e w' => e = .returned (.int .u64 ((l.flushed + 1 : Nat) : Int)) ∧ w' = W) := fun W hW => flushed_out (h.same (fun k hk => by rw [hW]) (by rw [hW]; exact Nat.le_refl _)) (by omega)
  have HAL : Hid (∀ W : World, W.heap = w.heap → Calls Tryz.prog 73 #[.pointer (some ⟨l.dp, 0, none⟩), .string ⟨(l.bytes.drop l.flushed).toArray⟩] W fun x w' => x = .returned (.int .i64 0) ∧ ∃ S', IsDisk w' l.dp S' (putD d ⟨(l.bytes.drop l.flushed).toArray⟩) ∧ Moves D S' W w') :=
    fun W hW => appendLog_out (hd.same (fun k hk => by rw [hW]) (by rw [hW]; exact Nat.le_refl _)) d1 d2 (by omega) _ (by rw [hsz]; omega)
  have HH := hid h
  have HD := hid hd
  have HA := hid ha
  obtain ⟨ba, bc, sv, hC⟩ := h.lcells
  have c0 := hC.c0
  have c1 := hC.c1
  have c3 := hC.c3
  have c4 := hC.c4
  have k0 : ((l.flushed : Int) == (l.bytes.length : Int)) = false := by rw [beq_eq_false_iff_ne]; omega
  have k1 : decide ((up : Int) < ((l.flushed + 1 : Nat) : Int)) = false := by simp; omega
  have k2 : decide ((up : Int) < (l.flushed : Int) + 1) = false := by simp; omega
  clear hC h hd ha
  go_enter Tryz.func25, Tryz.ntmps25
  go_wp2_with fail
  go_region_held3 (fun w' => w'.cell? ⟨p, 1, none⟩ = some (.slice ba l.bytes.length bc) ∧ w'.cell? ⟨p, 3, none⟩ = some (.int .i64 l.flushed)) (first | exact ⟨c1, c3⟩ | go_keep)
    (first | (go_at_call 72; refine (HFL.out w.drew rfl).mono ?_; rintro x w3 ⟨rfl, rfl⟩))
  go_wp2_with fail
  have HHX : Hid (IsLog w.drew.drew.drew p S l) := HH.out.same (fun _ _ => rfl) (Nat.le_refl _)
  clear c1 c3 c4
  go_region_held3 (fun w' => w'.cell? ⟨p, 0, none⟩ = some (.pointer (some ⟨l.dp, 0, none⟩))) (first | exact c0 | go_keep | assumption)
    (first | (go_at_call 74; refine (HM.out w.drew.drew rfl).mono ?_; rintro x w3 ⟨rfl, rfl⟩) | (go_at_call 73; refine (HAL.out w.drew.drew.drew rfl).mono ?_; rintro x w5 ⟨rfl, D5, hd5, hm5⟩; have hb5 := HHX.out.beside hm5 HA.out; have hc0 : w5.cell? ⟨p, 0, none⟩ = some (.pointer (some ⟨l.dp, 0, none⟩)) := hb5.1.c0))
  have hpS : S p := HH.out.has
  have H5 : Hid (IsLog w5 p S l ∧ (∀ k, S k → ¬ D5 k) ∧ IsDisk w5 l.dp D5 (putD d ⟨(l.bytes.drop l.flushed).toArray⟩) ∧ Moves D D5 w w5) := ⟨hb5.1, hb5.2, hd5, hm5.undrew.undrew.undrew⟩
  obtain ⟨ba5, bc5, sv5, hC5⟩ := hb5.1.lcells
  have q1 := hC5.c1
  have q4 := hC5.c4
  have q0 := hC5.c0
  have f4 := hC5.fr 4
  clear hC5 hb5 hd5 hm5 hc0 c0
  go_wp2_with fail
  have hL6 : IsLog (w5.setCell ⟨p, 4, none⟩ (.bool true)) p S { l with half := true } := H5.out.1.set (fun _ _ => rfl) rfl rfl
  have hD6 : IsDisk (w5.setCell ⟨p, 4, none⟩ (.bool true)) l.dp D5 (putD d ⟨(l.bytes.drop l.flushed).toArray⟩) := H5.out.2.2.1.same (fun k hk => heap_set _ _ _ _ (fun e => H5.out.2.1 p hpS (e ▸ hk))) (by simp)
  refine (syncLog_out hD6 d1 d2 (by show d.calls + 1 ≤ _; omega) (by show (d.log ++ _).length ≤ _; simp; omega)).mono ?_
  rintro x w6 ⟨rfl, D6, hd6, hm6⟩
  have hb6 := hL6.beside hm6 H5.out.2.1
  obtain ⟨ba6, bc6, sv6, hC6⟩ := hb6.1.lcells
  have r1 : w6.cell? ⟨p, 1, none⟩ = some (.slice ba6 l.bytes.length bc6) := hC6.c1
  have r3 : w6.cell? ⟨p, 3, none⟩ = some (.int .i64 l.flushed) := hC6.c3
  have r4 : w6.cell? ⟨p, 4, none⟩ = some (.bool true) := hC6.c4
  have g3 := hC6.fr 3
  have g4 := hC6.fr 4
  have HF : Hid (∃ D', IsLog ((w6.setCell ⟨p, 4, none⟩ (.bool false)).setCell ⟨p, 3, none⟩ (.int .i64 l.bytes.length)) p S { l with flushed := l.bytes.length } ∧ IsDisk ((w6.setCell ⟨p, 4, none⟩ (.bool false)).setCell ⟨p, 3, none⟩ (.int .i64 l.bytes.length)) l.dp D' (flushD l d) ∧ (∀ k, S k → ¬ D' k) ∧ (∀ k, D' k → D k ∨ w.heap.size ≤ k) ∧ Kept (fun k => S k ∨ D k) w ((w6.setCell ⟨p, 4, none⟩ (.bool false)).setCell ⟨p, 3, none⟩ (.int .i64 l.bytes.length))) := by
    have e1 : ({ l with flushed := l.bytes.length } : LG) = { l with half := false, flushed := l.bytes.length } := by rw [← hh]
    have hm : Moves (fun k => S k ∨ D k) (fun k => S k ∨ D6 k) w w6 := by
      have a := H5.out.2.2.2
      have h1 : Moves (fun k => S k ∨ D k) (fun k => S k ∨ D5 k) w w5 := ⟨a.1.mono fun _ x => .inr x, fun k x => by
        rcases x with x | x
        · exact .inl (.inl x)
        · rcases a.2 k x with y | y
          · exact .inl (.inr y)
          · exact .inr y⟩
      have h2 : Moves (fun k => S k ∨ D5 k) (fun k => S k ∨ D5 k) w5 (w5.setCell ⟨p, 4, none⟩ (.bool true)) := Moves.of_kept (Kept.setCell _ _ _ _ _ (.inl hpS))
      have h3 : Moves (fun k => S k ∨ D5 k) (fun k => S k ∨ D6 k) (w5.setCell ⟨p, 4, none⟩ (.bool true)) w6 := ⟨hm6.1.mono fun _ x => .inr x, fun k x => by
        rcases x with x | x
        · exact .inl (.inl x)
        · rcases hm6.2 k x with y | y
          · exact .inl (.inr y)
          · exact .inr y⟩
      exact (h1.trans h2).trans h3
    have hp6 : ¬ D6 p := hb6.2 p hpS
    refine ⟨D6, ?_, ?_, hb6.2, fun k hk => ?_, ?_⟩
    · rw [e1]
      have s1 : IsLog (w6.setCell ⟨p, 4, none⟩ (.bool false)) p S { l with half := false } := hb6.1.set (fun _ _ => rfl) rfl rfl
      exact s1.set (fun _ _ => rfl) rfl rfl
    · refine IsDisk.same (w := w6) hd6 (fun k hk => ?_) (by simp)
      have ne : k ≠ p := fun e => hp6 (e ▸ hk)
      exact (heap_set _ _ _ _ ne).trans (heap_set _ _ _ _ ne)
    · rcases hm.2 k (.inr hk) with (y | y) | y
      · exact absurd hk (hb6.2 k y)
      · exact .inl y
      · exact .inr y
    · exact ((hm.kept (Kept.setCell _ _ _ _ _ (.inl hpS))).kept (Kept.setCell _ _ _ _ _ (.inl hpS))).1
  clear hC6 hb6 hd6 hm6 hL6 hD6
  go_wp2
  go_ret
  exact ⟨rfl, HF.out⟩

end

end Go.Proofs.YtgkfdakieebnmaaGreat

namespace Go.Proofs.YtgkfdakieebnmaaGreat
open Go.RowKit

theorem ext_list (s : ByteArray) (a b : Nat) : (s.extract a b).data.toList = (s.data.toList.drop a).take (b - a) := by
  simp [ByteArray.data_extract, List.extract_eq_take_drop]

theorem bytes_ext {a b : ByteArray} (h : a.data.toList = b.data.toList) : a = b := Go.WideShapes.bytes_inj h

theorem frameN_here {all : ByteArray} {A r B : List UInt8} (hall : all.data.toList = A ++ (frameL (A.length + 1) r ++ B)) (h1 : 1 ≤ r.length) (h2 : r.length ≤ 8192) : frameN all A.length = r.length + 12 := by
  have hl := frameL_length (A.length + 1) r
  have hsz : all.size = A.length + (r.length + 12 + B.length) := by
    have : all.size = all.data.toList.length := by simp
    rw [this, hall]
    simp [hl]
  have hd : all.data.toList.drop A.length = frameL (A.length + 1) r ++ B := by rw [hall]; exact List.drop_left
  have hp : part all A.length 4 = putL r.length 4 := by
    unfold part
    rw [hd]
    unfold frameL
    rw [List.append_assoc, List.append_assoc, List.append_assoc, List.take_append_of_le_length (by rw [putL_length]; omega), List.take_of_length_le (by rw [putL_length]; omega)]
  have hn : le (part all A.length 4) = r.length := by
    rw [hp, le_putL]
    exact Nat.mod_eq_of_lt (by omega)
  have hx : (all.extract A.length (A.length + (r.length + 12))).data.toList = frameL (A.length + 1) r := by
    rw [ext_list, hd, show A.length + (r.length + 12) - A.length = r.length + 12 by omega, ← hl]
    exact List.take_left
  have hy : ((all.extract A.length (A.length + (r.length + 12))).extract 8 (r.length + 8)).data.toList = r := by
    rw [ext_list, hx, show r.length + 8 - 8 = r.length by omega]
    have e : frameL (A.length + 1) r = (putL r.length 4 ++ putL (crcSum 0 (putL (A.length + 1) 8 ++ r)) 4) ++ (r ++ putL r.length 4) := by simp [frameL]
    rw [e]
    have e8 : (putL r.length 4 ++ putL (crcSum 0 (putL (A.length + 1) 8 ++ r)) 4).length = 8 := by simp [putL_length]
    generalize putL r.length 4 ++ putL (crcSum 0 (putL (A.length + 1) 8 ++ r)) 4 = X at e8 ⊢
    rw [← e8, List.drop_left, List.take_left]
  unfold frameN
  rw [hn, if_pos]
  refine ⟨by omega, h2, by omega, h1, ?_⟩
  apply bytes_ext
  rw [hx]
  unfold frameB
  rw [hy]

theorem frameN_end {all : ByteArray} {a : Nat} (h : all.size < a + 4) : frameN all a = 0 := if_neg fun k => by omega

theorem below_kept {S : Nat → Prop} {u v w : World} (h : Below u.heap.size u v) (k : Kept S v w) (hS : ∀ i, S i → u.heap.size ≤ i) : Below u.heap.size u w :=
  ⟨k.os.trans h.os, k.tape.trans h.tape, k.output.trans h.output, Nat.le_trans h.size k.size, fun i hi => (k.block i (Nat.lt_of_lt_of_le hi h.size) fun x => by have := hS i x; omega).trans (h.block i hi)⟩

end Go.Proofs.YtgkfdakieebnmaaGreat
