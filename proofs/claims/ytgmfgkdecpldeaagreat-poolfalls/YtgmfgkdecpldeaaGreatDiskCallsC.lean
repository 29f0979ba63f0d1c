/-
  The walks of the disk's calls, as long as there is no plan: New, Write, Read, Sync, AppendLog, SyncLog, ReadLog, Crash, Up.
-/
import Derived.Test.YtgmfgkdecpldeaaGreatDiskPowerC
import Derived.Test.YtgmfgkdecpldeaaGreatBase2C
namespace Go.Proofs.YtgmfgkdecpldeaaGreat
open Go.RowKit
set_option linter.unusedVariables false

/-- A new disk. -/
def newD (room : Nat) : DG := ⟨room, false, 0, [], fun _ => zerosS, 0, [], fun _ => none, 0, [], 0, 0, 0⟩

set_option maxHeartbeats 1600000 in
set_option maxRecDepth 8000 in
theorem new_any (w : World) (room : Nat) (h1 : 8 ≤ room) (h2 : room ≤ 2048) :
    Calls Tryz.prog 36 #[.int .i64 room] w fun e w' => ∃ p, e = .returned (.tuple #[.pointer (some ⟨p, 0, none⟩), .int .i64 0]) ∧ (∃ m, DiskAt w' p m (newD room) ∧ (∀ k, m.has p k → w.heap.size ≤ k)) ∧ Below w.heap.size w w' := by
  have hmm := @run_makeMap Tryz.prog
  have h1' : (8 : Int) ≤ room := by omega
  have h2' : (room : Int) ≤ 2048 := by omega
  go_enter Tryz.func36, Tryz.ntmps36
  go_wp2
  go_ret2
  refine ⟨w.heap.size + 1 + 1, rfl, ⟨⟨.slice none 0 0, .slice none 0 0, .slice none 0 0, w.heap.size, w.heap.size + 1⟩, ⟨?_, ⟨.inl ⟨rfl, rfl⟩, ⟨fun _ => none, ?_, fun q _ _ => rfl⟩, ?_, by show w.heap.size ≠ w.heap.size + 1; omega, World.ownsRow_nil _ _ _ _, World.ownsRow_nil _ _ _ _⟩⟩, ?_⟩, ?_⟩
  · have h := Blk.made ((w.alloc (.map #[] 0)).alloc (.map #[] 0)) (dvals ⟨.slice none 0 0, .slice none 0 0, .slice none 0 0, w.heap.size, w.heap.size + 1⟩ (newD room)) 98
    have e : ((w.alloc (.map #[] 0)).alloc (.map #[] 0)).heap.size = w.heap.size + 1 + 1 := by simp
    rw [e] at h
    exact h
  · exact (IsPages.made w).same ((heap_old _ _ (by simp; omega)).trans (heap_old _ _ (by simp)))
  · have h := IsPages.made (w.alloc (.map #[] 0))
    have e : (w.alloc (.map #[] 0)).heap.size = w.heap.size + 1 := by simp
    rw [e] at h
    exact h.same (heap_old _ _ (by simp))
  · rintro k (h | h | h | h | h | h)
    · omega
    · simp only at h; omega
    · simp only at h; omega
    · cases h
    · cases h
    · cases h
  · exact (((Below.refl _ _).alloc (Nat.le_refl _) _).alloc (by simp) _).alloc (by simp; omega) _

/-- A method's step, seen from outside. -/
theorem moved {w w' : World} {p : Nat} {m m' : Mem} {d d' : DG} {S S0 : Nat → Prop} (h : DiskAt w p m d) (hS : ∀ k, m.has p k → S k) (h' : DiskAt w' p m' d') (hr : ∀ k, m'.rest k → m.rest k ∨ w.heap.size ≤ k) (hk : Kept S0 w w') (h0 : ∀ k, S0 k → m.has p k) :
    ∃ S', IsDisk w' p S' d' ∧ Moves S S' w w' := by
  refine ⟨m'.has p, ⟨m', h', fun _ x => x, ?_⟩, hk.mono fun k x => hS k (h0 k x), ?_⟩
  · rintro k (rfl | x)
    · exact h'.lt
    · exact h'.rest_lt x
  · rintro k (rfl | x)
    · exact .inl (hS k (.inl rfl))
    · rcases hr k x with y | y
      · exact .inl (hS k (.inr y))
      · exact .inr y

section
variable {w : World} {p : Nat} {S : Nat → Prop} {d : DG}

theorem dead_out (h : IsDisk w p S d) : Calls Tryz.prog 51 #[.pointer (some ⟨p, 0, none⟩)] w fun x w' => x = .returned (.bool d.dead) ∧ w' = w := by
  obtain ⟨m, hD, _⟩ := h
  exact dead_any hD.blk.cells

theorem up_out (h : IsDisk w p S d) : Calls Tryz.prog 18 #[.pointer (some ⟨p, 0, none⟩)] w fun x w' => x = .returned (.bool d.dead) ∧ ∃ S', IsDisk w' p S' { d with dead := false } ∧ Moves S S' w w' := by
  obtain ⟨m, hD, hS, _⟩ := h
  refine (up_any hD).mono ?_
  rintro x w' ⟨rfl, hd, hk⟩
  exact ⟨rfl, moved hD hS hd (fun k x => .inl x) hk fun k x => .inl x⟩

set_option maxHeartbeats 1600000 in
set_option maxRecDepth 8000 in
theorem crash_out (h : IsDisk w p S d) (hd : d.dead = false) (hok : d.ok) (f : FG) (hf : f.keep < 18446744073709551616) :
    Calls Tryz.prog 17 #[.pointer (some ⟨p, 0, none⟩), .agg (fcells f).toArray] w fun x w' => x = .returned (.tuple #[]) ∧ ∃ S', IsDisk w' p S' (failD f d) ∧ Moves S S' w w' := by
  obtain ⟨m, hD, hS, _⟩ := h
  have hB : Below w.heap.size w (w.alloc (.cells (fcells f).toArray 38)) := (Below.refl _ _).alloc (Nat.le_refl _) _
  have HD : Hid (DiskAt (w.alloc (.cells (fcells f).toArray 38)) p m d) := hD.below hB
  have HC : Hid (Calls Tryz.prog 52 #[.pointer (some ⟨p, 0, none⟩), .agg (fcells f).toArray] (w.alloc (.cells (fcells f).toArray 38)) fun x w' => x = .returned (.tuple #[]) ∧ ∃ S', IsDisk w' p S' (failD f d) ∧ Moves S S' w w') := by
    refine (dfail_any HD.out hok f hf).mono ?_
    rintro x w' ⟨rfl, ⟨m', hd', hr⟩, hk⟩
    refine ⟨rfl, moved hD hS hd' (fun k x => ?_) ((Kept.of_below hB).trans hk) fun k x => ?_⟩
    · rcases hr k x with y | y
      · exact .inl y
      · right; simp at y; omega
    · rcases x with x | x
      · exact .inl x
      · exact .inr (.inl x)
  unfold fcells at HD HC ⊢
  clear hD
  go_enter Tryz.func17, Tryz.ntmps17
  go_wp2_with fail
  refine (dead_any HD.out.blk.cells).mono ?_
  rintro x w1 ⟨rfl, rfl⟩
  rw [hd]
  go_wp2_with fail
  refine HC.out.mono ?_
  rintro x w1 ⟨rfl, h1⟩
  have H1 : Hid (∃ S', IsDisk w1 p S' (failD f d) ∧ Moves S S' w w1) := h1
  clear h1 HC HD
  go_wp2
  go_end0
  exact ⟨rfl, H1.out⟩

/-- What a page holds. -/
def readD (d : DG) (q : Nat) : ByteArray := (d.fresh q).getD (d.sure q)

set_option maxHeartbeats 1600000 in
set_option maxRecDepth 8000 in
theorem read_out (h : IsDisk w p S d) (hd : d.dead = false) (q : Nat) (hq : q < 4294967296) (hc : checkE d.room q = 0) (hs : (readD d q).size ≤ 1000000) :
    Calls Tryz.prog 22 #[.pointer (some ⟨p, 0, none⟩), .int .u32 q] w fun x w' => x = .returned (.tuple #[.string (readD d q), .int .i64 0]) ∧ Below w.heap.size w w' := by
  obtain ⟨m, hD, _⟩ := h
  have c7 := hD.blk.cells.c7
  have h0 : 1 ≤ q := by unfold checkE at hc; split at hc; cases hc; omega
  have hl := hD.parts.fresh.look h0 hq
  have HD : Hid (DiskAt w p m d) := hD
  clear hD
  unfold readD at hs ⊢
  cases e : d.fresh q with
  | none =>
    rw [e] at hl hs
    simp only [Option.getD, Option.isSome] at hl hs ⊢
    go_enter Tryz.func22, Tryz.ntmps22
    go_wp2_with fail
    refine (dead_any HD.out.blk.cells).mono ?_
    rintro x w1 ⟨rfl, rfl⟩
    rw [hd]
    go_wp2_with fail
    refine (check_any HD.out.blk.cells q hq).mono ?_
    rintro x w1 ⟨rfl, rfl⟩
    rw [hc]
    go_wp2_with fail
    refine (sureBytes_any HD.out q h0 hq).mono ?_
    rintro x w1 ⟨rfl, b1⟩
    go_wp2_with fail
    refine (clone_any _ _ (by omega)).mono ?_
    rintro x w2 ⟨rfl, b2⟩
    go_wp2
    go_ret2
    exact ⟨rfl, b1.trans (b2.mono b1.size)⟩
  | some s =>
    rw [e] at hl hs
    simp only [Option.getD, Option.isSome] at hl hs ⊢
    go_enter Tryz.func22, Tryz.ntmps22
    go_wp2_with fail
    refine (dead_any HD.out.blk.cells).mono ?_
    rintro x w1 ⟨rfl, rfl⟩
    rw [hd]
    go_wp2_with fail
    refine (check_any HD.out.blk.cells q hq).mono ?_
    rintro x w1 ⟨rfl, rfl⟩
    rw [hc]
    go_wp2_with fail
    refine (clone_any _ _ (by omega)).mono ?_
    rintro x w2 ⟨rfl, b2⟩
    go_wp2
    go_ret2
    exact ⟨rfl, b2⟩

set_option maxHeartbeats 1600000 in
set_option maxRecDepth 8000 in
theorem readLog_out (h : IsDisk w p S d) (hd : d.dead = false) :
    Calls Tryz.prog 53 #[.pointer (some ⟨p, 0, none⟩)] w fun x w' => x = .returned (.tuple #[.string ⟨d.log.toArray⟩, .int .i64 0]) ∧ Below w.heap.size w w' := by
  obtain ⟨m, hD, _⟩ := h
  have c9 := hD.blk.cells.c9
  have hc : ∀ W : World, W.heap = w.heap → (convert 47 9 m.logV).run Tryz.prog W = .ok (.string ⟨d.log.toArray⟩) W := by
    intro W hW
    have hlog := owns_same (w' := W) hD.parts.log fun g _ => by rw [hW]
    rcases hlog.2 with ⟨e1, e2⟩ | ⟨g, cap, cur, e1, h0, hb, h1, h2, h3, h4⟩
    · have hl : d.log = [] := List.eq_nil_of_length_eq_zero e2
      rw [e1, hl]
      have := run_convert_bytes_string (P := Tryz.prog) W 47 9 5 none 0 0 Tryz.underlying47 Tryz.underlying5 Tryz.underlying9
      rw [this]
      rfl
    · rw [e1]
      refine run_convert_bytes_back W 47 9 5 ⟨g, 0, none⟩ cap d.log Tryz.underlying47 Tryz.underlying5 Tryz.underlying9 ?_
      intro j hj
      rw [e1] at hlog
      have := owns_cells hlog j (.int .u8 (d.log[j].toNat : Int)) (by simp [dcellsOf, hj])
      simpa [Addr.add_lit] using this
  have HD : Hid (DiskAt w p m d) := hD
  have hc0 := hc w rfl
  clear hD hc
  generalize m.logV = v at *
  go_enter Tryz.func53, Tryz.ntmps53
  go_wp2_with fail
  refine (dead_any HD.out.blk.cells).mono ?_
  rintro x w1 ⟨rfl, rfl⟩
  rw [hd]
  go_wp2
  go_ret2
  exact ⟨rfl, Below.refl _ _⟩

end

end Go.Proofs.YtgmfgkdecpldeaaGreat
