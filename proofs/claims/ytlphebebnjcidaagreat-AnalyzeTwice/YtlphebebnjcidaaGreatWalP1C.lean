/-
  The walk of disk.SetMark without a plan; Keep, Give of any numbers; Append, Spend of what may not be, or has no room.
-/
import Derived.Test.YtlphebebnjcidaaGreatWalFrameJ
import Derived.StillTailTactics
import Derived.Test.YtlphebebnjcidaaGreatWalRecsJ
import Derived.Test.YtlphebebnjcidaaGreatDiskWriteC
set_option linter.unusedVariables false
set_option linter.unusedSimpArgs false
namespace Go.Proofs.YtlphebebnjcidaaGreat
open Go.RowKit

def markD (d : DG) (v : Nat) : DG := { d with calls := d.calls + 1, loose := d.loose ++ [⟨0, ⟨#[]⟩, v⟩], mark := v }

section
variable {w : World} {p : Nat} {S : Nat → Prop} {d : DG}

set_option maxHeartbeats 1600000 in
set_option maxRecDepth 8000 in
theorem setMark_out (h : IsDisk w p S d) (hd : d.dead = false) (hl : d.plan = []) (hn : d.calls ≤ 1000000 ∧ d.loose.length ≤ 1000000) (v : Nat) :
    Calls Tryz.prog 46 #[.pointer (some ⟨p, 0, none⟩), .int .u64 v] w fun x w' => x = .returned (.int .i64 0) ∧ ∃ S', IsDisk w' p S' (markD d v) ∧ Moves S S' w w' := by
  obtain ⟨m, hD, hS, _⟩ := h
  obtain ⟨i0, hi, hz0, hz1, hz2⟩ := info_parts infoW
  have HD : Hid (DiskAt w p m d) := hD
  have HS : Hid (∀ k, m.has p k → S k) := hS
  clear hD hS
  go_enter Tryz.func46, Tryz.ntmps46
  go_wp2_with fail
  refine (dead_any HD.out.blk.cells).mono ?_
  rintro x w1 ⟨rfl, rfl⟩
  rw [hd]
  go_wp2_with fail
  refine (powered_none HD.out hl hn.1).mono ?_
  rintro x w2 ⟨rfl, hD1, hK1⟩
  have HD2 : Hid (DiskAt w2 p m { d with calls := d.calls + 1 }) := hD1
  have HK1 : Hid (Kept (fun k => k = p) _ w2) := hK1
  clear hD1 hK1
  have c6 := HD2.out.blk.cells.c6
  have hlt2 := HD2.out.lt
  have HB3 : Hid (Below w2.heap.size w2 (w2.alloc (.cells #[.int .u32 0, .string ⟨#[]⟩, .int .u64 v] 152))) := (Below.refl _ _).alloc (Nat.le_refl _) _
  have hown3 := (HD2.out.below HB3.out).parts.loose
  have hnb := Blk.made w2 #[.int .u32 0, .string ⟨#[]⟩, .int .u64 v] 152
  have hnews : ∀ j u, (wcells ⟨0, ⟨#[]⟩, v⟩)[j]? = some u → (w2.alloc (.cells #[.int .u32 0, .string ⟨#[]⟩, .int .u64 v] 152)).cell? ((⟨w2.heap.size, 0, none⟩ : Addr).add j) = some u := by
    intro j u hj
    have e := hnb.cell j
    rw [Addr.add_lit, Nat.zero_add, e]
    simpa [wcells] using hj
  go_wp2_with (at_builtin; refine wpList_append_own_at _ rfl _ _ 113 rfl 0 152 i0 (.agg #[.int .u32 0, .string ⟨#[]⟩, .int .u64 0]) 3 32 Tryz.underlying113 hi hz0 hz1 hz2 rfl (by decide) m.looseV d.loose.length (d.loose.flatMap wcells) rfl hown3 ⟨w2.heap.size, 0, none⟩ 1 1 (wcells ⟨0, ⟨#[]⟩, v⟩) rfl rfl hnews (by intro u hu; simp [wcells] at hu; rcases hu with rfl | rfl | rfl <;> rfl) (by unfold maxLen; omega) (by omega) (Nat.zero_le _) ?_)
  intro v' w3 hown' hgrow _ hloc
  obtain ⟨a', c', hv⟩ : ∃ a' c', v' = .slice a' (d.loose.length + 1) c' := by
    rcases hown'.2 with ⟨e1, e2⟩ | ⟨g, cap, cur, e1, _⟩
    · omega
    · exact ⟨_, _, e1⟩
  obtain ⟨hb3, hD3, hr3, hK3⟩ := pushed HD2.out ⟨0, ⟨#[]⟩, v⟩ HB3.out hown' hgrow (z := w2.heap.size + 1) (by omega) hloc
  have hb := hb3 p hlt2 (fun e => HD2.out.off (.inr (.inr (.inl e))) rfl)
  have c6' : w3.cell? ⟨p, 6, none⟩ = some m.looseV := (World.cell?_of_block (w := w2) (a := ⟨p, 6, none⟩) hb).trans c6
  have f6' : w3.frozen? ⟨p, 6, none⟩ = false := (World.frozen?_of_block (w := w2) (a := ⟨p, 6, none⟩) hb).trans (HD2.out.blk.cells.fr 6)
  have c8' : w3.cell? ⟨p, 8, none⟩ = some (.int .u64 d.mark) := (World.cell?_of_block (w := w2) (a := ⟨p, 8, none⟩) hb).trans HD2.out.blk.cells.c8
  have f8' : w3.frozen? ⟨p, 8, none⟩ = false := (World.frozen?_of_block (w := w2) (a := ⟨p, 8, none⟩) hb).trans (HD2.out.blk.cells.fr 8)
  have HD4 : Hid (DiskAt ((w3.setCell ⟨p, 6, none⟩ v').setCell ⟨p, 8, none⟩ (.int .u64 v)) p { m with looseV := v' } (markD d v)) := by
    refine ⟨hD3.blk.set 8 _, ?_⟩
    exact (hD3.parts.same fun k hk => heap_set _ _ _ _ (hD3.off hk)).to rfl rfl rfl rfl rfl rfl rfl
  have HK4 : Hid (Kept (m.has p) w2 ((w3.setCell ⟨p, 6, none⟩ v').setCell ⟨p, 8, none⟩ (.int .u64 v))) := hK3.trans (Kept.setCell _ _ _ _ _ (.inl rfl))
  have HR : Hid (∀ k, v'.ownBlock = some k → m.rest k ∨ w2.heap.size ≤ k) := hr3
  clear hr3 hK3 hD3 hb3 hb hown' hgrow hloc hnews hnb hown3 c6
  subst hv
  go_wp2
  go_ret
  refine ⟨rfl, ?_⟩
  refine moved HD.out HS.out HD4.out ?_ ((HK1.out.mono fun k e => .inl e).trans HK4.out) fun k x => x
  have hz := HK1.out.size
  rintro k (x | x | x | x | x)
  · exact .inl (.inl x)
  · exact .inl (.inr (.inl x))
  · rcases HR.out k x with y | y
    · exact .inl y
    · exact .inr (by omega)
  · exact .inl (.inr (.inr (.inr (.inl x))))
  · exact .inl (.inr (.inr (.inr (.inr x))))

end

section
variable {w : World} {p : Nat} {S : Nat → Prop} {l : LG}

set_option maxHeartbeats 800000 in
set_option maxRecDepth 8000 in
theorem flush_none (h : IsLog w p S l) (hf : l.flushed ≤ l.bytes.length) (hb : l.bytes.length ≤ 4194304) (up : Nat) (hto : l.flushed = l.bytes.length ∨ up < l.flushed + 1) :
    Calls Tryz.prog 12 #[.pointer (some ⟨p, 0, none⟩), .int .u64 up] w fun e w' => e = .returned (.int .i64 0) ∧ Below w.heap.size w w' := by
  have HFL : Hid (∀ W : World, W.heap = w.heap → Calls Tryz.prog 41 #[.pointer (some ⟨p, 0, none⟩)] W fun e w' => e = .returned (.int .u64 ((l.flushed + 1 : Nat) : Int)) ∧ w' = W) := fun W hW => flushed_out (h.same (fun k hk => by rw [hW]) (by rw [hW]; exact Nat.le_refl _)) (by omega)
  obtain ⟨ba, bc, sv, hC⟩ := h.lcells
  have c1 := hC.c1
  have c3 := hC.c3
  clear hC h
  by_cases he : l.flushed = l.bytes.length
  · have k0 : ((l.flushed : Int) == (l.bytes.length : Int)) = true := by rw [he]; simp
    clear he hto hf
    go_enter Tryz.func12, Tryz.ntmps12
    go_wp2_with fail
    go_quiet (fail)
    go_wp2
    go_ret
    exact ⟨rfl, below_drewN' _ _⟩
  · have k0 : ((l.flushed : Int) == (l.bytes.length : Int)) = false := by rw [beq_eq_false_iff_ne]; omega
    have k1 : decide ((up : Int) < ((l.flushed + 1 : Nat) : Int)) = true := by simp; omega
    have k2 : decide ((up : Int) < (l.flushed : Int) + 1) = true := by simp; omega
    go_enter Tryz.func12, Tryz.ntmps12
    go_wp2_with fail
    go_region_held3 (fun w' => w'.cell? ⟨p, 1, none⟩ = some (.slice ba l.bytes.length bc) ∧ w'.cell? ⟨p, 3, none⟩ = some (.int .i64 l.flushed)) (first | exact ⟨c1, c3⟩ | go_keep)
      (first | (go_at_call 41; refine (HFL.out w.drew rfl).mono ?_; rintro x w3 ⟨rfl, rfl⟩))
    go_wp2
    go_ret
    exact ⟨rfl, (Below.refl _ _).drew⟩

end

end Go.Proofs.YtlphebebnjcidaaGreat
