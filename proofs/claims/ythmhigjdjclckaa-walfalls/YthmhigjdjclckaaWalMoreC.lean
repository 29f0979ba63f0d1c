/-
  The walks of disk.CutLog and disk.Mark (without a plan), of wal.Last and wal.Master.
-/
import Derived.Test.YthmhigjdjclckaaWalGetC
namespace Go.Proofs.Ythmhigjdjclckaa
open Go.RowKit
set_option linter.unusedVariables false

section
variable {w : World} {p : Nat} {S : Nat → Prop} {d : DG}

/-- The log was cut. -/
def cutD (d : DG) (n : Nat) : DG := { d with calls := d.calls + 1, log := d.log.take n, sl := n }

set_option maxHeartbeats 1600000 in
set_option maxRecDepth 8000 in
theorem cutLog_out (h : IsDisk w p S d) (hd : d.dead = false) (hl : d.plan = []) (hn : d.calls ≤ 1000000) (hll : d.log.length ≤ 1000000000) (n : Nat) (hnl : n ≤ d.log.length) :
    Calls Try.prog 22 #[.pointer (some ⟨p, 0, none⟩), .int .i64 n] w fun x w' => x = .returned (.int .i64 0) ∧ ∃ S', IsDisk w' p S' (cutD d n) ∧ Moves S S' w w' := by
  obtain ⟨m, hD, hS, _⟩ := h
  obtain ⟨a, c, hv⟩ : ∃ a c, m.logV = .slice a d.log.length c := by
    rcases hD.parts.log.2 with ⟨e1, e2⟩ | ⟨g', cap', cur', e1, _⟩
    · exact ⟨none, 0, by rw [e1, e2]⟩
    · exact ⟨_, _, e1⟩
  have HD : Hid (DiskAt w p m d) := hD
  have HS : Hid (∀ k, m.has p k → S k) := hS
  have c9 := hD.blk.cells.c9
  rw [hv] at c9
  clear hD hS
  have k1 : decide ((n : Int) < 0) = false := by simp
  have k2 : decide ((d.log.length : Int) < (n : Int)) = false := by simp; omega
  go_enter Try.func22, Try.ntmps22
  go_wp2_with fail
  refine (dead_any HD.out.blk.cells).mono ?_
  rintro x w1 ⟨rfl, rfl⟩
  rw [hd]
  go_wp2_with fail
  refine (powered_none HD.out hl hn).mono ?_
  rintro x w2 ⟨rfl, hD1, hK1⟩
  have HD1 : Hid (DiskAt w2 p m { d with calls := d.calls + 1 }) := hD1
  have HK1 : Hid (Kept (fun k => k = p) _ w2) := hK1
  clear hD1 hK1 c9
  go_wp2_with fail
  refine (cut_any HD1.out n hnl hll).mono ?_
  rintro x w3 ⟨rfl, ⟨v, hd3, hvb⟩, hk3⟩
  have HF : Hid (∃ S', IsDisk w3 p S' (cutD d n) ∧ Moves S S' w1 w3) := by
    refine moved HD.out HS.out hd3 ?_ (HK1.out.trans hk3) fun k x => .inl x
    rintro k (x | x | x | x | x)
    · exact .inl (.inl x)
    · exact .inl (.inr (.inl x))
    · exact .inl (.inr (.inr (.inl x)))
    · simp only at x
      rcases hvb with e | e
      · rw [e] at x; cases x
      · rw [e] at x; exact .inl (.inr (.inr (.inr (.inl x))))
    · exact .inl (.inr (.inr (.inr (.inr x))))
  clear hd3 hk3 hvb
  go_wp2
  go_ret
  exact ⟨rfl, HF.out⟩

theorem mark_out (h : IsDisk w p S d) (hd : d.dead = false) :
    Calls Try.prog 52 #[.pointer (some ⟨p, 0, none⟩)] w fun x w' => x = .returned (.tuple #[.int .u64 d.mark, .int .i64 0]) ∧ w' = w := by
  obtain ⟨m, hD, _⟩ := h
  have c8 := hD.blk.cells.c8
  have HD := hid hD
  clear hD
  go_enter Try.func52, Try.ntmps52
  go_wp2_with fail
  refine (dead_any HD.out.blk.cells).mono ?_
  rintro x w1 ⟨rfl, rfl⟩
  rw [hd]
  go_wp2
  go_ret2
  exact ⟨rfl, rfl⟩

end

section
variable {w : World} {p : Nat} {S : Nat → Prop} {l : LG} {rs : List ByteArray}

set_option maxHeartbeats 400000 in
set_option maxRecDepth 8000 in
theorem last_recs (h : IsLog w p S l) (hR : RecsAt l rs) (hn : rs.length ≤ 10000000) (hb : l.bytes.length ≤ 4194304) (i : Nat) (hi : i + 1 = rs.length) :
    Calls Try.prog 33 #[.pointer (some ⟨p, 0, none⟩)] w fun e w' => e = .returned (.tuple #[.int .u64 (placeOf rs i : Nat), .bool true]) ∧ ∃ q, w' = w.drewN q := by
  have HE := hid (end_out h hb)
  have HB := hid (back_recs h hR hn hb i (by omega))
  rw [hR.long] at HE
  rw [hi] at HB
  go_enter Try.func33, Try.ntmps33
  go_wp2_with fail
  refine HE.out.mono ?_
  rintro e w1 ⟨rfl, rfl⟩
  go_wp2_with fail
  refine HB.out.mono ?_
  rintro e w2 ⟨rfl, q, rfl⟩
  go_wp2
  go_ret2
  exact ⟨rfl, q, rfl⟩

theorem last_none (h : IsLog w p S l) (hR : RecsAt l []) :
    Calls Try.prog 33 #[.pointer (some ⟨p, 0, none⟩)] w fun e w' => e = .returned (.tuple #[.int .u64 0, .bool false]) ∧ ∃ q, w' = w.drewN q := by
  have hl : l.bytes.length = 0 := by have := hR.long; change l.bytes.length + 1 = 1 at this; omega
  have HE := hid (end_out h (by omega))
  have HB := hid (back_first h hR (by simp))
  rw [hl] at HE
  go_enter Try.func33, Try.ntmps33
  go_wp2_with fail
  refine HE.out.mono ?_
  rintro e w1 ⟨rfl, rfl⟩
  go_wp2_with fail
  refine HB.out.mono ?_
  rintro e w2 ⟨rfl, q, rfl⟩
  go_wp2
  go_ret2
  exact ⟨rfl, q, rfl⟩

set_option maxHeartbeats 400000 in
set_option maxRecDepth 8000 in
/-- The mark is none of a record here, or it is one's place. -/
theorem master_out {D : Nat → Prop} {d : DG} (h : IsLog w p S l) (hd : IsDisk w l.dp D d) (h1 : d.dead = false) (hr : Rising l.starts) (hn : l.starts.length ≤ 10000000) (v : Nat) (hv : (v = d.mark ∧ ∃ j, j < l.starts.length ∧ l.starts.getD j 0 = d.mark) ∨ (v = 0 ∧ ∀ j, j < l.starts.length → l.starts.getD j 0 ≠ d.mark)) :
    Calls Try.prog 36 #[.pointer (some ⟨p, 0, none⟩)] w fun e w' => e = .returned (.int .u64 (v : Nat)) ∧ ∃ q, w' = w.drewN q := by
  have c0 := h.c0
  have HM := hid (mark_out hd h1)
  have HF := hid (find_out h hr hn d.mark)
  rcases hv with ⟨rfl, j, hj, hx⟩ | ⟨rfl, hx⟩
  · have HH : Hid (∀ i b, Found l.starts d.mark i b → b = true) := fun i b hf => (hf.here hr hj hx).2
    go_enter Try.func36, Try.ntmps36
    go_wp2_with fail
    refine HM.out.mono ?_
    rintro e w1 ⟨rfl, rfl⟩
    go_wp2_with fail
    refine HF.out.mono ?_
    rintro e w2 ⟨⟨i, b, rfl, hf⟩, q, rfl⟩
    obtain rfl := HH.out i b hf
    clear hf
    go_wp2
    go_ret
    exact ⟨rfl, q, rfl⟩
  · have HH : Hid (∀ i b, Found l.starts d.mark i b → b = false) := fun i b hf => by
      rw [hf.2.2.2]
      exact decide_eq_false fun k => hx i k.1 k.2
    go_enter Try.func36, Try.ntmps36
    go_wp2_with fail
    refine HM.out.mono ?_
    rintro e w1 ⟨rfl, rfl⟩
    go_wp2_with fail
    refine HF.out.mono ?_
    rintro e w2 ⟨⟨i, b, rfl, hf⟩, q, rfl⟩
    obtain rfl := HH.out i b hf
    clear hf
    go_wp2
    go_ret
    exact ⟨rfl, q, rfl⟩

end

end Go.Proofs.Ythmhigjdjclckaa
