/-
  The walks of disk.CutLog and disk.Mark (without a plan), of wal.Last and wal.Master.
-/
import Derived.Test.YtgmfgkdecpldeaaGreatWalGetC
namespace Go.Proofs.YtgmfgkdecpldeaaGreat
open Go.RowKit
set_option linter.unusedVariables false

section
variable {w : World} {p : Nat} {S : Nat → Prop} {d : DG}

/-- The log was cut. -/
def cutD (d : DG) (n : Nat) : DG := { d with calls := d.calls + 1, log := d.log.take n, sl := n }

set_option maxHeartbeats 1600000 in
set_option maxRecDepth 8000 in
theorem cutLog_out (h : IsDisk w p S d) (hd : d.dead = false) (hl : d.plan = []) (hn : d.calls ≤ 1000000) (hll : d.log.length ≤ 1000000000) (n : Nat) (hnl : n ≤ d.log.length) :
    Calls Tryz.prog 55 #[.pointer (some ⟨p, 0, none⟩), .int .i64 n] w fun x w' => x = .returned (.int .i64 0) ∧ ∃ S', IsDisk w' p S' (cutD d n) ∧ Moves S S' w w' := by
  obtain ⟨m, hD, hS, _⟩ := h
  obtain ⟨a, c, hv⟩ : ∃ a c, m.logV = .slice a d.log.length c := by
    rcases hD.parts.log.2 with ⟨e1, e2⟩ | ⟨g', cap', cur', e1, _⟩
    · exact ⟨none, 0, by rw [e1, e2]⟩
    · exact ⟨_, _, e1⟩
  have HD : Hid (DiskAt w p m d) := hD
  have HS : Hid (∀ k, m.has p k → S k) := hS
  have c9 := hD.blk.cells.c9
  rw [hv] at c9
  clear hD hS
  have k1 : decide ((n : Int) < 0) = false := by simp
  have k2 : decide ((d.log.length : Int) < (n : Int)) = false := by simp; omega
  go_enter Tryz.func55, Tryz.ntmps55
  go_wp2_with fail
  refine (dead_any HD.out.blk.cells).mono ?_
  rintro x w1 ⟨rfl, rfl⟩
  rw [hd]
  go_wp2_with fail
  refine (powered_none HD.out hl hn).mono ?_
  rintro x w2 ⟨rfl, hD1, hK1⟩
  have HD1 : Hid (DiskAt w2 p m { d with calls := d.calls + 1 }) := hD1
  have HK1 : Hid (Kept (fun k => k = p) _ w2) := hK1
  clear hD1 hK1 c9
  go_wp2_with fail
  refine (cut_any HD1.out n hnl hll).mono ?_
  rintro x w3 ⟨rfl, ⟨v, hd3, hvb⟩, hk3⟩
  have HF : Hid (∃ S', IsDisk w3 p S' (cutD d n) ∧ Moves S S' w1 w3) := by
    refine moved HD.out HS.out hd3 ?_ (HK1.out.trans hk3) fun k x => .inl x
    rintro k (x | x | x | x | x)
    · exact .inl (.inl x)
    · exact .inl (.inr (.inl x))
    · exact .inl (.inr (.inr (.inl x)))
    · simp only at x
      rcases hvb with e | e
      · rw [e] at x; cases x
      · rw [e] at x; exact .inl (.inr (.inr (.inr (.inl x))))
    · exact .inl (.inr (.inr (.inr (.inr x))))
  clear hd3 hk3 hvb
  go_wp2
  go_ret
  exact ⟨rfl, HF.out⟩



end

section
variable {w : World} {p : Nat} {S : Nat → Prop} {l : LG} {rs : List ByteArray}







end

end Go.Proofs.YtgmfgkdecpldeaaGreat
