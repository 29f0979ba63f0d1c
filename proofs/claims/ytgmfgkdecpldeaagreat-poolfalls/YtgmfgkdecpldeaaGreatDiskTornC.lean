/-
  The walk of keepPart: a torn write.
-/
import Derived.Test.YtgmfgkdecpldeaaGreatDiskPartsC
namespace Go.Proofs.YtgmfgkdecpldeaaGreat
open Go.RowKit
set_option linter.unusedVariables false

/-- How many bytes of a torn page stay. -/
def tornN (n : Int) : Nat := (min (max n 0) 512).toNat

theorem tornN_le (n : Int) : tornN n ≤ 512 := by unfold tornN; omega

/-- The first k bytes of one text and, behind them, those of another. -/
def mix (k : Nat) (s t : ByteArray) : ByteArray := s.extract 0 k ++ t.extract k t.size

def keepPartF (x : LW) (n : Int) (f : Nat → ByteArray) : Nat → ByteArray := if x.page = 0 then f else fun q => if q = x.page then mix (tornN n) x.s (f x.page) else f q

theorem DiskAt.below {w w' : World} {p : Nat} {m : Mem} {d : DG} (h : DiskAt w p m d) (k : Below w.heap.size w w') : DiskAt w' p m d :=
  ⟨h.blk.same (k.block p h.lt), h.parts.same fun i hi => k.block i (h.rest_lt hi)⟩

section
variable {w : World} {p : Nat} {m : Mem} {d : DG}

theorem mix_size {k : Nat} {s t : ByteArray} (hk : k ≤ 512) (hs : s.size = 512) (ht : t.size = 512) : (mix k s t).size = 512 := by
  unfold mix
  simp only [ByteArray.size_append, ByteArray.size_extract]
  omega

set_option maxHeartbeats 1600000 in
set_option maxRecDepth 8000 in
theorem keepPart_any (hD : DiskAt w p m d) (x : LW) (n : Int) (hx : x.page < 4294967296) (hs : x.page ≠ 0 → x.s.size = 512) (hS : ∀ q, (d.sure q).size = 512) (hn : d.nS ≤ 1000000) :
    Calls Tryz.prog 86 #[.pointer (some ⟨p, 0, none⟩), .agg (wcells x).toArray, .int .i64 n] w fun e w' => e = .returned (.tuple #[]) ∧
      DiskAt w' p m { d with sure := keepPartF x n d.sure, nS := d.nS + 1 } ∧ Kept (fun k => k = p ∨ k = m.sure) w w' := by
  have hc := hD.blk.cells
  have c4 := hc.c4
  have hlt := hD.lt
  obtain ⟨pg, s, mk⟩ := x
  unfold wcells keepPartF
  simp only at hx hs ⊢
  by_cases h0 : pg = 0
  · subst h0
    rw [if_pos rfl]
    go_enter Tryz.func86, Tryz.ntmps86
    go_wp2
    refine bodyPost_ret (results_none rfl _ _ _) rfl ?_
    have hB : Below w.heap.size w (w.alloc (.cells #[.int .u32 0, .string s, .int .u64 mk] 128)) := (Below.refl _ _).alloc (Nat.le_refl _) _
    have hd := hD.below hB
    refine ⟨rfl, ⟨hd.blk, ⟨hd.parts.plan, ?_, hd.parts.fresh, hd.parts.ne, hd.parts.loose, hd.parts.log⟩⟩, Kept.of_below hB⟩
    obtain ⟨f, hf, hz⟩ := hd.parts.sure
    exact ⟨f, hf.mono (Nat.le_succ _), hz⟩
  · rw [if_neg h0]
    have hs' := hs h0
    have hS' := hS pg
    obtain ⟨f, hf, hz⟩ := hD.parts.sure
    obtain ⟨k, hk⟩ : ∃ k, k = tornN n := ⟨_, rfl⟩
    have hk2 : k ≤ 512 := hk ▸ tornN_le n
    have hk3 : min (max n 0) 512 = (k : Int) := by rw [hk]; unfold tornN; omega
    rw [← hk]
    generalize ht : d.sure pg = t at *
    obtain ⟨u, hu⟩ := putP_ex m.sure pg (mix k s t)
    have hmu : Hid (∀ W, DiskAt W p m d → (Instr.mapUpdate 95 (.map (some m.sure)) (.int .u32 pg) (.string (s.extract 0 k ++ t.extract k 512))).run Tryz.prog W = .ok () (u W)) := fun W hW => by
      obtain ⟨f', hf', hz'⟩ := hW.parts.sure
      have := (hu W _ _ hf' (by omega) hx (by rw [mix_size hk2 hs' hS']; omega)).1
      unfold mix at this
      rw [hS'] at this
      exact this
    have h0' : ((pg : Int) == 0) = false := by simpa using h0
    have hB : Below w.heap.size w (w.alloc (.cells #[.int .u32 pg, .string s, .int .u64 mk] 128)).drew := ((Below.refl _ _).alloc (Nat.le_refl _) _).drew
    have hd0 : Hid (Calls Tryz.prog 59 #[.pointer (some ⟨p, 0, none⟩), .int .u32 pg] (w.alloc (.cells #[.int .u32 pg, .string s, .int .u64 mk] 128)).drew fun e w' => e = .returned (.string t) ∧
      (w'.cell? ⟨w.heap.size, 0, none⟩ = some (.int .u32 pg) ∧ w'.cell? ⟨w.heap.size, 1, none⟩ = some (.string s) ∧ w'.cell? ⟨p, 4, none⟩ = some (.map (some m.sure))) ∧
      (Instr.mapUpdate 95 (.map (some m.sure)) (.int .u32 pg) (.string (s.extract 0 k ++ t.extract k 512))).run Tryz.prog w' = .ok () (u w') ∧ Hid (Below w.heap.size w w') ∧
      ((u w').cell? ⟨w.heap.size, 0, none⟩ = some (.int .u32 pg) ∧ (u w').cell? ⟨w.heap.size, 1, none⟩ = some (.string s) ∧ (u w').cell? ⟨p, 4, none⟩ = some (.map (some m.sure)))) := by
      refine (sureBytes_any (hD.below hB) pg (by omega) hx).mono ?_
      rintro e w1 ⟨rfl, b1⟩
      have b2 := hB.trans (b1.mono hB.size)
      have h2 := hD.below b2
      have bb := Blk.made w #[.int .u32 pg, .string s, .int .u64 mk] 128
      have b3 : Blk w1 w.heap.size #[.int .u32 pg, .string s, .int .u64 mk] 128 := bb.same (b1.block _ (by simp))
      obtain ⟨f', hf', hz'⟩ := h2.parts.sure
      have hg := (hu w1 _ _ hf' (by omega) hx (by rw [mix_size hk2 hs' hS']; omega)).2.2.grown
      have hlt' := hD.rest_lt (.inl rfl : m.rest m.sure)
      have b4 : Blk (u w1) w.heap.size #[.int .u32 pg, .string s, .int .u64 mk] 128 := b3.same (hg.block _ b3.lt (fun e => by have := Option.some.inj e; omega))
      have b5 : Blk (u w1) p (dvals m d) 98 := h2.blk.same (hg.block _ h2.lt (fun e => h2.off (.inl rfl) (Option.some.inj e).symm))
      exact ⟨by rw [ht], ⟨b3.cell 0, b3.cell 1, h2.blk.cells.c4⟩, hmu.out w1 h2, b2, ⟨b4.cell 0, b4.cell 1, b5.cells.c4⟩⟩
    have H : Hid (DiskAt w p m d ∧ (∀ q, 1 ≤ q → q < 4294967296 → (f q).getD zerosS = d.sure q) ∧ d.sure pg = t ∧ (∀ (w : World) (n : Nat) (f : Nat → Option ByteArray), IsPages w m.sure n f → n ≤ 1000000000 → pg < 4294967296 → (mix k s t).size ≤ 1000000000 →
      (Instr.mapUpdate 95 (.map (some m.sure)) (.int .u32 pg) (.string (mix k s t))).run Tryz.prog w = .ok () (u w) ∧ IsPages (u w) m.sure (n + 1) (setF f pg (mix k s t)) ∧ w.mapTurned (u w) m.sure) ∧ IsPages w m.sure d.nS f) := ⟨hD, hz, ht, hu, hf⟩
    have hno : ¬ (9223372036854775807 < (s.extract 0 k).size + (t.extract k 512).size) := by simp only [ByteArray.size_extract]; omega
    have hk4 : (0 : Int) ≤ (k : Int) := by omega
    have hk5 : (k : Int) ≤ (s.size : Int) := by omega
    have hk6 : (k : Int) ≤ (t.size : Int) := by omega
    have hk7 : (k : Int) ≤ 512 := by omega
    clear hD hz ht hu hk hmu hf hS hs hc hB h0
    go_enter Tryz.func86, Tryz.ntmps86
    go_wp2
    go_region_held3 (fun w' => w'.cell? ⟨w.heap.size, 0, none⟩ = some (.int .u32 pg) ∧ w'.cell? ⟨w.heap.size, 1, none⟩ = some (.string s) ∧ w'.cell? ⟨p, 4, none⟩ = some (.map (some m.sure))) (first | go_keep | exact q1 | exact q3)
      (first | (go_at_call 59; refine hd0.out.mono ?_; rintro x w1 ⟨rfl, q1, q2, b2, q3⟩))
    go_end0
    obtain ⟨hD, hz, ht, hu, hf⟩ := H.out
    have b3 := b2.out
    have hf1 := hf.same (b3.block m.sure hf.lt)
    have hp := hu w1 _ _ hf1 (by omega) hx (by rw [mix_size hk2 hs' hS']; omega)
    have hq := hD.turned b3 hz hp.2.1 hp.2.2
    exact ⟨rfl, hq.1, hq.2⟩

end

end Go.Proofs.YtgmfgkdecpldeaaGreat
