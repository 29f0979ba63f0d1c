/-
  The model's put where there is no room, its less; wal.SetMaster; a disk of which all is sure, behind a fall.
-/
import Derived.Test.YtlphebebnjcidaaGreatWalP2C
import Derived.Test.YtlphebebnjcidaaGreatTornScanJ
import Derived.Maps.AppendAt
import Derived.Deep.Upon
set_option linter.unusedVariables false
set_option linter.unusedSimpArgs false
namespace Go.Proofs.YtlphebebnjcidaaGreat
open Go.RowKit

section
variable {W : World} {p q : Nat} {S D : Nat → Prop} {l : LG} {d : DG} {rs : List ByteArray} {sure kept mark j : Nat}

end

theorem sync_mark {d : DG} (v : Nat) (hl : d.loose = []) : syncD (markD d v) = { d with calls := d.calls + 1 + 1, sm := v, mark := v, fresh := fun _ => none, nS := d.nS + 1, nF := 0 } := by
  unfold syncD markD
  simp [hl, keepTo, keepF, keepM]

section
variable {W : World} {p q : Nat} {S D : Nat → Prop} {l : LG} {d : DG} {rs : List ByteArray} {sure kept mark j : Nat}

set_option maxHeartbeats 1600000 in
set_option maxRecDepth 8000 in
theorem setMaster_ok (h : WpL W p q S D l d rs sure kept mark j) (hj : j ≤ 100) (i x : Nat) (hi : i < sure) (hx : placeOf rs i = x) (hx64 : x < 18446744073709551616) :
    Calls Tryz.prog 13 #[.pointer (some ⟨q, 0, none⟩), .int .u64 x] W fun e w' => e = .returned (.int .i64 0) ∧ ∃ D' d', WpL w' p q S D' l d' rs sure kept x (j + 1) ∧ Moves D D' W w' := by
  have hir : i < rs.length := by have := h.su; omega
  have hn : l.starts.length ≤ 10000000 := by rw [h.slen]; have := h.cnt; omega
  have HF := hid (find_out h.log h.recs.rising hn x)
  have HFL : Hid (∀ n, Calls Tryz.prog 41 #[.pointer (some ⟨q, 0, none⟩)] (W.drewN n) fun e w' => e = .returned (.int .u64 ((l.flushed + 1 : Nat) : Int)) ∧ w' = W.drewN n) := fun n => flushed_out (h.log.below (below_drewN' W n)) (by have := h.flle; have := h.blen; omega)
  have HH : Hid (∀ k b, Found l.starts x k b → b = true) := fun k b hf => (hf.here h.recs.rising (by rw [h.slen]; exact hir) (by rw [h.recs.at hir]; exact hx)).2
  have hxf : x < l.flushed + 1 := by
    rw [h.flu]
    have := placeOf_mono rs (show i + 1 ≤ sure by omega)
    have := (h.recs.le hir).1
    omega
  have k1 : decide (((l.flushed + 1 : Nat) : Int) ≤ (x : Int)) = false := by simp; omega
  have k2 : decide ((l.flushed : Int) + 1 ≤ (x : Int)) = false := by simp; omega
  have c0 := h.log.c0
  rw [h.dp] at c0
  have HC : Hid (∀ n, (W.drewN n).cell? ⟨q, 0, none⟩ = some (.pointer (some ⟨p, 0, none⟩))) := fun n => c0
  have HM : Hid (∀ n, Calls Tryz.prog 46 #[.pointer (some ⟨p, 0, none⟩), .int .u64 x] (W.drewN n) fun y w' => y = .returned (.int .i64 0) ∧ ∃ D', IsDisk w' p D' (markD d x) ∧ Moves D D' (W.drewN n) w') := fun n => setMark_out (h.disk.below (below_drewN' W n)) h.dead h.plan ⟨by have := h.calls; omega, by rw [h.loose]; simp⟩ x
  have HW := hid h
  have HI : Hid (i < sure ∧ placeOf rs i = x) := ⟨hi, hx⟩
  clear h hi hx hn hir c0
  go_enter Tryz.func13, Tryz.ntmps13
  go_wp2_with fail
  refine HF.out.mono ?_
  rintro e w2 ⟨⟨k, b, rfl, hf⟩, n, rfl⟩
  obtain rfl := HH.out k b hf
  clear hf HH HF
  go_wp2_with fail
  refine (HFL.out n).mono ?_
  rintro e w3 ⟨rfl, rfl⟩
  have c0 := HC.out n
  clear HFL
  go_wp2_with fail
  refine (HM.out n).mono ?_
  rintro e w4 ⟨rfl, D4, hd4, hm4⟩
  have hb4 := (HW.out.log.below (below_drewN' W n)).beside hm4 HW.out.off
  have c0' := hb4.1.c0
  rw [HW.out.dp] at c0'
  have hok4 : (markD d x).ok := ⟨fun y hy => by
    show y.ok
    have hy' : y ∈ d.loose ++ [⟨0, ⟨#[]⟩, x⟩] := hy
    rw [HW.out.loose] at hy'
    rw [List.mem_singleton.1 hy']
    exact ⟨by show (0 : Nat) < 4294967296; omega, by show (0 : Nat) ≤ 512; omega, fun e => absurd rfl e⟩, HW.out.ok.sure, by show d.nS + (d.loose ++ [_]).length ≤ 1000000; rw [HW.out.loose]; have := HW.out.nS; simp; omega, HW.out.ok.log, HW.out.ok.sl⟩
  have HS := hid (sync_out hd4 HW.out.dead HW.out.plan (by show d.calls + 1 ≤ _; have := HW.out.calls; omega) hok4)
  have H4 : Hid (IsLog w4 q S l ∧ (∀ k, S k → ¬ D4 k) ∧ Moves D D4 W w4) := ⟨hb4.1, hb4.2, ⟨⟨hm4.1.os, hm4.1.tape, hm4.1.output, hm4.1.size, hm4.1.block⟩, hm4.2⟩⟩
  clear hb4 hd4 hm4 hok4 HM
  go_wp2_with fail
  refine HS.out.mono ?_
  rintro e w5 ⟨rfl, D5, hd5, hm5⟩
  have hb5 := H4.out.1.beside hm5 H4.out.2.1
  rw [sync_mark x HW.out.loose] at hd5
  have HR : Hid (∃ D' d', WpL w5 p q S D' l d' rs sure kept x (j + 1) ∧ Moves D D' W w5) := by
    have h := HW.out
    refine ⟨D5, _, ⟨hb5.1, hd5, h.dp, hb5.2, h.bytes, h.recs, h.half, h.keeps, h.fits, h.sz, Nat.le_trans h.cnt (by omega), h.su, h.fl, h.dlog, h.dead, h.plan, ?_, ⟨?_, h.ok.sure, ?_, h.ok.log, h.ok.sl⟩, h.loose, h.sl, ?_, rfl, rfl, .inr ⟨i, HI.out⟩, hx64⟩, H4.out.2.2.trans hm5⟩
    · show d.calls + 1 + 1 ≤ _
      have := h.calls; omega
    · intro y hy
      have hy' : y ∈ d.loose := hy
      rw [h.loose] at hy'
      cases hy'
    · show d.nS + 1 + d.loose.length ≤ _
      rw [h.loose]
      have := h.nS
      simp; omega
    · show d.nS + 1 ≤ _
      have := h.nS; omega
  clear hd5 hm5 hb5 HS H4
  go_wp2
  go_ret
  exact ⟨rfl, HR.out⟩

end

end Go.Proofs.YtlphebebnjcidaaGreat
