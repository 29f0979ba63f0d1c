/-
  The walks of raw.Put and girderref01.Put: a number's lowest bytes.
-/
import Derived.Test.YtgkfdakieebnmaaGreatProg
import Derived.Test.YtgkfdakieebnmaaGreatCrcJ
import Derived.WalkKit
import Derived.WalkSpells
import Derived.WalkLawsBesides
import Derived.Deep.OwnRows
namespace Go.Proofs.YtgkfdakieebnmaaGreat
open Go.RowKit

theorem below_chain {w W W' : World} (h : Below w.heap.size w W) (k : Below W.heap.size W W') : Below w.heap.size w W' :=
  h.trans (k.mono h.size)

theorem below_drewN {B : Nat} {w W : World} (h : Below B w W) (n : Nat) : Below B w (W.drewN n) := ⟨h.os, h.tape, h.output, h.size, h.block⟩

def RowU (w : World) (b N : Nat) (f : Nat → Int) : Prop :=
  ∀ j, j < N → w.cell? ⟨b, j, none⟩ = some (.int .u8 (f j)) ∧ w.frozen? ⟨b, j, none⟩ = false

theorem RowU.congr {w : World} {b N : Nat} {f g : Nat → Int} (h : RowU w b N f) (e : ∀ j, j < N → f j = g j) : RowU w b N g :=
  fun j hj => by rw [← e j hj]; exact h j hj

theorem RowU.set {w : World} {b N : Nat} {f : Nat → Int} (h : RowU w b N f) {k : Nat} (hk : k < N) (v : Int) :
    RowU (w.setCell ⟨b, k, none⟩ (.int .u8 v)) b N (fun j => if j = k then v else f j) := by
  intro j hj
  refine ⟨?_, by rw [World.frozen?_setCell]; exact (h j hj).2⟩
  by_cases e : j = k
  · subst e; simp only [if_pos]; exact World.cell?_setCell_same _ _ _ (h j hj).1
  · simp only [if_neg e]; rw [World.cell?_setCell_other _ _ _ _ (by intro q; exact e (by simpa using q.symm))]; exact (h j hj).1

theorem RowU.made (w : World) (N : Nat) (t : TypeId) : RowU (w.alloc (.cells (madeCells #[.int .u8 0] N) t)) w.heap.size N (fun _ => 0) := by
  intro j hj
  refine ⟨?_, by simp⟩
  rw [World.cell?_alloc_new]
  have h : (madeCells #[Value.int .u8 0] N).toList[j]? = some (.int .u8 0) := by
    rw [toList_madeCells_one]; simp [hj]
  simpa using h

theorem RowU.toString {P : Program} {w : World} {b N c : Nat} {f : Nat → Int} (h : RowU w b N f) (l : List UInt8) (hl : l.length = N) (e : ∀ j (hj : j < l.length), f j = (l[j].toNat : Int))
    (src dst el : TypeId) (hs : P.underlying src = some (.slice el)) (he : P.underlying el = some (.int .u8)) (hd : P.underlying dst = some .string) :
    (convert src dst (.slice (some ⟨b, 0, none⟩) N c)).run P w = .ok (.string ⟨l.toArray⟩) w := by
  subst hl
  refine run_convert_bytes_back w src dst el ⟨b, 0, none⟩ c l hs he hd (fun j hj => ?_)
  have := (h j hj).1
  rw [← e j hj, ← this]
  by_cases h0 : j = 0
  · subst h0; simp [Addr.add]
  · simp [Addr.add, h0]

theorem info5 : (Tryz.prog.info? 5).map (fun i => (i.zero, i.size, i.bytes)) = some (some (.int .u8 0), 1, 1) := by kernel_rfl

set_option maxHeartbeats 400000 in
set_option maxRecDepth 60000 in
theorem put_any (n : Nat) (x : Int) (w : World) (_hn : n < 18446744073709551616) :
    Calls Tryz.prog 112 #[.int .u64 n, .int .i64 x] w fun e w' => e = .returned (.string ⟨(putL n (longOf x)).toArray⟩) ∧ Below w.heap.size w w' := by
  have hN : longOf x ≤ 8 := by unfold longOf; omega
  have hmk := run_make_row' (P := Tryz.prog) 90 5 (.int .u8 0) 1 Tryz.underlying90 info5 rfl .i64 .i64 (longOf x) (by omega) (by omega)
  have h1 : (if x < 0 then (0 : Int) else x) = ((x.toNat : Nat) : Int) := by split <;> omega
  have h2 : (if (8 : Int) < ((x.toNat : Nat) : Int) then 8 else ((x.toNat : Nat) : Int)) = ((longOf x : Nat) : Int) := by unfold longOf; split <;> omega
  generalize longOf x = N at *
  generalize x.toNat = y at *
  go_enter Tryz.func112, Tryz.ntmps112
  go_wp2_with fail
  go_loopw [13] (fun i wr => ∃ k : Nat, k ≤ N ∧ i = .int .i64 k ∧ Below w.heap.size w wr ∧ RowU wr w.heap.size N (fun j => if j < k then ((byteAt n j).toNat : Int) else 0)) (fun i _ => N - (intOf i).toNat)
  case atStart => exact ⟨0, by omega, rfl, (Below.refl _ _).alloc (Nat.le_refl _) _, (RowU.made w N _).congr (fun j _ => by simp)⟩
  case round =>
    obtain ⟨k, hk, rfl, hb, hr⟩ := hrel
    by_cases hlt : k < N
    · have hck := (hr k hlt).1
      have hfk := (hr k hlt).2
      go_wp2
      go_roundw
      case rel =>
        refine ⟨k + 1, by omega, by go_num, hb.setCell (Nat.le_refl _) _, (hr.set hlt _).congr (fun j hj => ?_)⟩
        by_cases e : j = k
        · subst e; rw [if_pos rfl, if_pos (by omega)]; exact byteAt_int n j
        · rw [if_neg e]; by_cases h : j < k
          · rw [if_pos h, if_pos (by omega)]
          · rw [if_neg h, if_neg (by omega)]
      case measure => simp [intOf]; omega
    · obtain rfl : k = N := by omega
      have hcv := hr.toString (P := Tryz.prog) (c := k) (putL n k) (putL_length n k) (fun j hj => by rw [putL_length] at hj; simp [putL, hj]) 90 9 5 Tryz.underlying90 Tryz.underlying5 Tryz.underlying9
      clear hr
      go_wp2
      go_ret
      exact ⟨rfl, hb⟩

end Go.Proofs.YtgkfdakieebnmaaGreat
