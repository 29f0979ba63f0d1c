/-
  The walks of raw.Put and girderref01.Put: a number's lowest bytes.
-/
import Derived.Test.YtnljephojonilaaProg
import Derived.Test.YtnljephojonilaaBase1C
import Derived.WalkKit
import Derived.WalkSpells
import Derived.WalkLawsBesides
import Derived.Deep.OwnRows
namespace Go.Proofs.Ytnljephojonilaa
open Go.RowKit

theorem below_chain {w W W' : World} (h : Below w.heap.size w W) (k : Below W.heap.size W W') : Below w.heap.size w W' :=
  h.trans (k.mono h.size)

theorem below_drewN {B : Nat} {w W : World} (h : Below B w W) (n : Nat) : Below B w (W.drewN n) := ⟨h.os, h.tape, h.output, h.size, h.block⟩

/-- A row of N bytes that may be written: cell j holds f j. -/
def RowU (w : World) (b N : Nat) (f : Nat → Int) : Prop :=
  ∀ j, j < N → w.cell? ⟨b, j, none⟩ = some (.int .u8 (f j)) ∧ w.frozen? ⟨b, j, none⟩ = false

theorem RowU.congr {w : World} {b N : Nat} {f g : Nat → Int} (h : RowU w b N f) (e : ∀ j, j < N → f j = g j) : RowU w b N g :=
  fun j hj => by rw [← e j hj]; exact h j hj

theorem RowU.set {w : World} {b N : Nat} {f : Nat → Int} (h : RowU w b N f) {k : Nat} (hk : k < N) (v : Int) :
    RowU (w.setCell ⟨b, k, none⟩ (.int .u8 v)) b N (fun j => if j = k then v else f j) := by
  intro j hj
  refine ⟨?_, by rw [World.frozen?_setCell]; exact (h j hj).2⟩
  by_cases e : j = k
  · subst e; simp only [if_pos]; exact World.cell?_setCell_same _ _ _ (h j hj).1
  · simp only [if_neg e]; rw [World.cell?_setCell_other _ _ _ _ (by intro q; exact e (by simpa using q.symm))]; exact (h j hj).1

theorem RowU.made (w : World) (N : Nat) (t : TypeId) : RowU (w.alloc (.cells (madeCells #[.int .u8 0] N) t)) w.heap.size N (fun _ => 0) := by
  intro j hj
  refine ⟨?_, by simp⟩
  rw [World.cell?_alloc_new]
  have h : (madeCells #[Value.int .u8 0] N).toList[j]? = some (.int .u8 0) := by
    rw [toList_madeCells_one]; simp [hj]
  simpa using h

/-- 'string(b)' of such a row. -/
theorem RowU.toString {P : Program} {w : World} {b N c : Nat} {f : Nat → Int} (h : RowU w b N f) (l : List UInt8) (hl : l.length = N) (e : ∀ j (hj : j < l.length), f j = (l[j].toNat : Int))
    (src dst el : TypeId) (hs : P.underlying src = some (.slice el)) (he : P.underlying el = some (.int .u8)) (hd : P.underlying dst = some .string) :
    (convert src dst (.slice (some ⟨b, 0, none⟩) N c)).run P w = .ok (.string ⟨l.toArray⟩) w := by
  subst hl
  refine run_convert_bytes_back w src dst el ⟨b, 0, none⟩ c l hs he hd (fun j hj => ?_)
  have := (h j hj).1
  rw [← e j hj, ← this]
  by_cases h0 : j = 0
  · subst h0; simp [Addr.add]
  · simp [Addr.add, h0]

theorem info5 : (Try.prog.info? 5).map (fun i => (i.zero, i.size, i.bytes)) = some (some (.int .u8 0), 1, 1) := by kernel_rfl

set_option maxHeartbeats 400000 in
set_option maxRecDepth 60000 in
theorem put_any (n : Nat) (x : Int) (w : World) (_hn : n < 18446744073709551616) :
    Calls Try.prog 37 #[.int .u64 n, .int .i64 x] w fun e w' => e = .returned (.string ⟨(putL n (longOf x)).toArray⟩) ∧ Below w.heap.size w w' := by
  have hN : longOf x ≤ 8 := by unfold longOf; omega
  have hmk := run_make_row' (P := Try.prog) 93 5 (.int .u8 0) 1 Try.underlying93 info5 rfl .i64 .i64 (longOf x) (by omega) (by omega)
  have h1 : (if x < 0 then (0 : Int) else x) = ((x.toNat : Nat) : Int) := by split <;> omega
  have h2 : (if (8 : Int) < ((x.toNat : Nat) : Int) then 8 else ((x.toNat : Nat) : Int)) = ((longOf x : Nat) : Int) := by unfold longOf; split <;> omega
  generalize longOf x = N at *
  generalize x.toNat = y at *
  go_enter Try.func37, Try.ntmps37
  go_wp2_with fail
  go_loopw [13] (fun i wr => ∃ k : Nat, k ≤ N ∧ i = .int .i64 k ∧ Below w.heap.size w wr ∧ RowU wr w.heap.size N (fun j => if j < k then ((byteAt n j).toNat : Int) else 0)) (fun i _ => N - (intOf i).toNat)
  case atStart => exact ⟨0, by omega, rfl, (Below.refl _ _).alloc (Nat.le_refl _) _, (RowU.made w N _).congr (fun j _ => by simp)⟩
  case round =>
    obtain ⟨k, hk, rfl, hb, hr⟩ := hrel
    by_cases hlt : k < N
    · have hck := (hr k hlt).1
      have hfk := (hr k hlt).2
      go_wp2
      go_roundw
      case rel =>
        refine ⟨k + 1, by omega, by go_num, hb.setCell (Nat.le_refl _) _, (hr.set hlt _).congr (fun j hj => ?_)⟩
        by_cases e : j = k
        · subst e; rw [if_pos rfl, if_pos (by omega)]; exact byteAt_int n j
        · rw [if_neg e]; by_cases h : j < k
          · rw [if_pos h, if_pos (by omega)]
          · rw [if_neg h, if_neg (by omega)]
      case measure => simp [intOf]; omega
    · obtain rfl : k = N := by omega
      have hcv := hr.toString (P := Try.prog) (c := k) (putL n k) (putL_length n k) (fun j hj => by rw [putL_length] at hj; simp [putL, hj]) 93 9 5 Try.underlying93 Try.underlying5 Try.underlying9
      clear hr
      go_wp2
      go_ret
      exact ⟨rfl, hb⟩

/-- 'string([]byte{b})' of a block that was just laid. -/
theorem one_byte {P : Program} (w : World) (q : Nat) (src dst el : TypeId) (hs : P.underlying src = some (.slice el)) (he : P.underlying el = some (.int .u8)) (hd : P.underlying dst = some .string) :
    (convert src dst (.slice (some ⟨w.heap.size, 0, none⟩) 1 1)).run P (w.alloc (.cells #[.int .u8 ((q : Int) % 256)] el)) = .ok (.string ⟨[UInt8.ofNat q].toArray⟩) (w.alloc (.cells #[.int .u8 ((q : Int) % 256)] el)) := by
  refine RowU.toString (N := 1) (f := fun _ => (q : Int) % 256) (fun j hj => ?_) [UInt8.ofNat q] rfl (fun j hj => ?_) src dst el hs he hd
  · obtain rfl : j = 0 := by omega
    exact ⟨by simp, by simp⟩
  · obtain rfl : j = 0 := by simpa using hj
    simp

set_option maxHeartbeats 400000 in
set_option maxRecDepth 60000 in
theorem rput_any (n : Nat) (x : Int) (w : World) (hn : n < 18446744073709551616) :
    Calls Try.prog 24 #[.int .u64 n, .int .i64 x] w fun e w' => e = .returned (.string ⟨(putL n (longOf x)).toArray⟩) ∧ Below w.heap.size w w' := by
  have hN : longOf x ≤ 8 := by unfold longOf; omega
  go_enter Try.func24, Try.ntmps24
  go_wp2
  go_loopw [0, 5, 6] (fun m o i wr => ∃ k q : Nat, k ≤ longOf x ∧ i = .int .i64 k ∧ m = .int .u64 q ∧ q < 18446744073709551616 ∧ Hid (q = n / 2 ^ (8 * k)) ∧ o = .string ⟨(putL n k).toArray⟩ ∧ Below w.heap.size w wr) (fun _ _ i _ => longOf x - (intOf i).toNat)
  case atStart => exact ⟨0, n, by omega, rfl, rfl, hn, by show n = _; simp, rfl, Below.refl _ _⟩
  case round =>
    obtain ⟨k, q, hk, rfl, rfl, hq, Hq, rfl, hb⟩ := hrel
    by_cases hlt : k < longOf x
    · have h1 : decide ((k : Int) < x) = true := by unfold longOf at hlt; simp; omega
      have h2 : decide ((k : Int) < 8) = true := by unfold longOf at hlt; simp; omega
      have hcv := one_byte (P := Try.prog) wr q 93 9 5 Try.underlying93 Try.underlying5 Try.underlying9
      have hl : (ByteArray.mk (putL n k).toArray).size = k := by show (putL n k).toArray.size = k; simp [putL_length]
      have hl1 : (ByteArray.mk #[UInt8.ofNat q]).size = 1 := rfl
      go_wp2
      go_roundw
      case rel =>
        have e := Hq.out
        refine ⟨k + 1, q / 256, by omega, by go_num, by go_num, by omega, ?_, ?_, hb.alloc hb.size _⟩
        · show q / 256 = _
          rw [e, Nat.div_div_eq_div_mul, show 8 * (k + 1) = 8 * k + 8 from by omega, Nat.pow_add]
        · rw [putL_succ, ← bytes_add, e]; rfl
      case measure => simp [intOf]; omega
    · have h1 : decide ((k : Int) < x) = false ∨ decide ((k : Int) < x) = true ∧ decide ((k : Int) < 8) = false := by
        by_cases h : (k : Int) < x
        · exact Or.inr ⟨by simp [h], by unfold longOf at hlt hk; simp; omega⟩
        · exact Or.inl (by simp [h])
      obtain rfl : k = longOf x := by omega
      rcases h1 with h1 | ⟨h1, h2⟩
      · go_wp2
        go_ret
        exact ⟨rfl, hb⟩
      · go_wp2
        go_ret
        exact ⟨rfl, hb⟩
end Go.Proofs.Ytnljephojonilaa
