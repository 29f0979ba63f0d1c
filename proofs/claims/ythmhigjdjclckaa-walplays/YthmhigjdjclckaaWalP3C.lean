/-
  The model's put where there is no room, its less; wal.SetMaster; a disk of which all is sure, behind a fall.
-/
import Derived.Test.YthmhigjdjclckaaBase8C
import Derived.Test.YthmhigjdjclckaaWalModelNoC
namespace Go.Proofs.Ythmhigjdjclckaa
open Go.RowKit
set_option linter.unusedVariables false

set_option maxHeartbeats 1600000 in
set_option maxRecDepth 8000 in
theorem mput_full (w : World) (a : Option Addr) (cap : Nat) (rs : List ByteArray) (sure kept mark : Int) (s : ByteArray) (hT : TextsAt w a rs) (hs : Sized rs) (hn : rs.length ≤ 399999) (h1 : 1 ≤ s.size) (h2 : s.size ≤ 8192) (b : Nat) (hb : (4194305 : Int) - (placeOf rs rs.length : Nat) < (s.size : Int) + 12 + (b : Int)) (hb2 : b ≤ 4194304) :
    Calls Try.prog 24 #[.agg #[.slice a rs.length cap, .int .i64 sure, .int .i64 kept, .int .u64 mark], .string s, .int .i64 b] w fun e w' => e = .returned (.tuple #[.agg #[.slice a rs.length cap, .int .i64 sure, .int .i64 kept, .int .u64 mark], .int .u64 0, .int .i64 50]) ∧ Below w.heap.size w w' := by
  go_enter Try.func24, Try.ntmps24
  go_wp2_with fail
  have hbel : Below w.heap.size w ((w.alloc (.cells #[.slice a rs.length cap, .int .i64 sure, .int .i64 kept, .int .u64 mark] 34)).alloc (.cells #[.slice none 0 0, .int .i64 0, .int .i64 0, .int .u64 0] 34)) := ((Below.refl _ _).alloc (Nat.le_refl _) _).alloc (by simp) _
  have hbm : Blk ((w.alloc (.cells #[.slice a rs.length cap, .int .i64 sure, .int .i64 kept, .int .u64 mark] 34)).alloc (.cells #[.slice none 0 0, .int .i64 0, .int .i64 0, .int .u64 0] 34)) w.heap.size #[.slice a rs.length cap, .int .i64 sure, .int .i64 kept, .int .u64 mark] 34 := (Blk.made w _ _).same (Below.heap_alloc _ _ _ (by simp))
  have hbr : Blk ((w.alloc (.cells #[.slice a rs.length cap, .int .i64 sure, .int .i64 kept, .int .u64 mark] 34)).alloc (.cells #[.slice none 0 0, .int .i64 0, .int .i64 0, .int .u64 0] 34)) (w.heap.size + 1) #[.slice none 0 0, .int .i64 0, .int .i64 0, .int .u64 0] 34 := by
    have := Blk.made (w.alloc (.cells #[.slice a rs.length cap, .int .i64 sure, .int .i64 kept, .int .u64 mark] 34)) #[.slice none 0 0, .int .i64 0, .int .i64 0, .int .u64 0] 34
    simpa using this
  have hzz : ((w.alloc (.cells #[.slice a rs.length cap, .int .i64 sure, .int .i64 kept, .int .u64 mark] 34)).alloc (.cells #[.slice none 0 0, .int .i64 0, .int .i64 0, .int .u64 0] 34)).heap.size = w.heap.size + 2 := by simp
  generalize (w.alloc (.cells #[.slice a rs.length cap, .int .i64 sure, .int .i64 kept, .int .u64 mark] 34)).alloc (.cells #[.slice none 0 0, .int .i64 0, .int .i64 0, .int .u64 0] 34) = W2 at *
  have hT2 := hT.below hbel
  refine (mroom_any W2 a cap rs sure kept mark hT2 hs (by omega)).mono ?_
  rintro e w3 ⟨rfl, b3⟩
  have hbm3 := hbm.same (b3.block w.heap.size (by omega))
  have hbr3 := hbr.same (b3.block (w.heap.size + 1) (by omega))
  have hz3 : w.heap.size + 2 ≤ w3.heap.size := by have := b3.size; omega
  have HBL := hid (below_chain hbel b3)
  clear hT hT2 hbm hbr hbel b3 hzz
  have hps := placeOf_le rs hs rs.length (Nat.le_refl _)
  have hpp := placeOf_pos rs rs.length
  have d1 : decide ((4194305 : Int) - (placeOf rs rs.length : Nat) < (s.size : Int) + 12 + (b : Int)) = true := by simp; omega
  have c0 : w3.cell? ⟨w.heap.size, 0, none⟩ = some (.slice a rs.length cap) := hbm3.cell 0
  have c1 : w3.cell? ⟨w.heap.size, 1, none⟩ = some (.int .i64 sure) := hbm3.cell 1
  have c2 : w3.cell? ⟨w.heap.size, 2, none⟩ = some (.int .i64 kept) := hbm3.cell 2
  have c3 : w3.cell? ⟨w.heap.size, 3, none⟩ = some (.int .u64 mark) := hbm3.cell 3
  have r0 : w3.cell? ⟨w.heap.size + 1, 0, none⟩ = some (.slice none 0 0) := hbr3.cell 0
  have r1 : w3.cell? ⟨w.heap.size + 1, 1, none⟩ = some (.int .i64 0) := hbr3.cell 1
  have r2 : w3.cell? ⟨w.heap.size + 1, 2, none⟩ = some (.int .i64 0) := hbr3.cell 2
  have r3 : w3.cell? ⟨w.heap.size + 1, 3, none⟩ = some (.int .u64 0) := hbr3.cell 3
  have f0 := hbr3.frozen 0
  have f1 := hbr3.frozen 1
  have f2 := hbr3.frozen 2
  have f3 := hbr3.frozen 3
  have HBR := hid hbr3
  clear hbm3 hbr3 hb
  go_wp2_with fail
  refine bodyPost_ret (v := .tuple #[.agg #[.slice a rs.length cap, .int .i64 sure, .int .i64 kept, .int .u64 mark], .int .u64 0, .int .i64 50]) (by simp [results, Try.results24, go_sem, r0, r1, r2, r3]) rfl ⟨rfl, ?_⟩
  exact (((HBL.out.setCell (p := ⟨w.heap.size + 1, 0, none⟩) (Nat.le_succ _) _).setCell (p := ⟨w.heap.size + 1, 1, none⟩) (Nat.le_succ _) _).setCell (p := ⟨w.heap.size + 1, 2, none⟩) (Nat.le_succ _) _).setCell (p := ⟨w.heap.size + 1, 3, none⟩) (Nat.le_succ _) _

theorem mless_any (k : Nat) (n : Int) (w : World) (hk : k ≤ 4194304) :
    Calls Try.prog 26 #[.int .i64 k, .int .i64 n] w fun e w' => e = .returned (.int .i64 (lessF k n : Int)) ∧ w' = w := by
  by_cases h0 : n < 0
  · have e : (lessF k n : Int) = k := by unfold lessF; rw [if_pos h0]
    rw [e]
    go_enter Try.func26, Try.ntmps26
    go_wp2
    go_ret
    exact ⟨rfl, rfl⟩
  · by_cases h1 : (k : Int) < n
    · have e : (lessF k n : Int) = 0 := by unfold lessF; rw [if_neg h0]; omega
      rw [e]
      go_enter Try.func26, Try.ntmps26
      go_wp2
      go_ret
      exact ⟨rfl, rfl⟩
    · have e : (lessF k n : Int) = (k : Int) - n := by unfold lessF; rw [if_neg h0]; omega
      rw [e]
      go_enter Try.func26, Try.ntmps26
      go_wp2
      go_ret
      exact ⟨rfl, rfl⟩

section
variable {W : World} {p q : Nat} {S D : Nat → Prop} {l : LG} {d : DG} {rs : List ByteArray} {sure kept mark j : Nat}

set_option maxHeartbeats 800000 in
set_option maxRecDepth 8000 in
/-- Where no record that is flushed begins there is no master. -/
theorem setMaster_no (h : WpL W p q S D l d rs sure kept mark j) (hj : j ≤ 100) (x : Nat) (hx : ∀ i, i < sure → placeOf rs i ≠ x) :
    Calls Try.prog 31 #[.pointer (some ⟨q, 0, none⟩), .int .u64 x] W fun e w' => e = .returned (.int .i64 52) ∧ Below W.heap.size W w' := by
  have hn : l.starts.length ≤ 10000000 := by rw [h.slen]; have := h.cnt; omega
  have HF := hid (find_out h.log h.recs.rising hn x)
  have HFL : Hid (∀ n, Calls Try.prog 19 #[.pointer (some ⟨q, 0, none⟩)] (W.drewN n) fun e w' => e = .returned (.int .u64 ((l.flushed + 1 : Nat) : Int)) ∧ w' = W.drewN n) := fun n => flushed_out (h.log.below (below_drewN' W n)) (by have := h.flle; have := h.blen; omega)
  have HH : Hid (∀ i, Found l.starts x i true → l.flushed + 1 ≤ x) := fun i hf => by
    have hi := of_decide_eq_true hf.2.2.2.symm
    have hi1 : i < rs.length := by rw [← h.slen]; exact hi.1
    have hi2 : placeOf rs i = x := by rw [← h.recs.at hi1]; exact hi.2
    have hs : sure ≤ i := Classical.byContradiction fun y => hx i (by omega) hi2
    have := placeOf_mono rs hs
    rw [h.flu]
    omega
  have hfb := h.flle
  have hbl := h.blen
  clear h hx hn
  go_enter Try.func31, Try.ntmps31
  go_wp2_with fail
  refine HF.out.mono ?_
  rintro e w2 ⟨⟨i, b, rfl, hf⟩, n, rfl⟩
  cases b with
  | false =>
    clear hf HH
    go_wp2
    go_ret
    exact ⟨rfl, below_drewN' W n⟩
  | true =>
    have hx := HH.out i hf
    have k1 : decide (((l.flushed + 1 : Nat) : Int) ≤ (x : Int)) = true := by simp; omega
    have k2 : decide ((l.flushed : Int) + 1 ≤ (x : Int)) = true := by simp; omega
    clear hf HH HF
    go_wp2_with fail
    refine (HFL.out n).mono ?_
    rintro e w3 ⟨rfl, rfl⟩
    go_wp2
    go_ret
    exact ⟨rfl, below_drewN' W n⟩

end

/-- All that is loose is a mark: it is sure then. -/
theorem sync_mark {d : DG} (v : Nat) (hl : d.loose = []) : syncD (markD d v) = { d with calls := d.calls + 1 + 1, sm := v, mark := v, fresh := fun _ => none, nS := d.nS + 1, nF := 0 } := by
  unfold syncD markD
  simp [hl, keepTo, keepF, keepM]

section
variable {W : World} {p q : Nat} {S D : Nat → Prop} {l : LG} {d : DG} {rs : List ByteArray} {sure kept mark j : Nat}

set_option maxHeartbeats 1600000 in
set_option maxRecDepth 8000 in
/-- A record that is flushed is the master. -/
theorem setMaster_ok (h : WpL W p q S D l d rs sure kept mark j) (hj : j ≤ 100) (i x : Nat) (hi : i < sure) (hx : placeOf rs i = x) (hx64 : x < 18446744073709551616) :
    Calls Try.prog 31 #[.pointer (some ⟨q, 0, none⟩), .int .u64 x] W fun e w' => e = .returned (.int .i64 0) ∧ ∃ D' d', WpL w' p q S D' l d' rs sure kept x (j + 1) ∧ Moves D D' W w' := by
  have hir : i < rs.length := by have := h.su; omega
  have hn : l.starts.length ≤ 10000000 := by rw [h.slen]; have := h.cnt; omega
  have HF := hid (find_out h.log h.recs.rising hn x)
  have HFL : Hid (∀ n, Calls Try.prog 19 #[.pointer (some ⟨q, 0, none⟩)] (W.drewN n) fun e w' => e = .returned (.int .u64 ((l.flushed + 1 : Nat) : Int)) ∧ w' = W.drewN n) := fun n => flushed_out (h.log.below (below_drewN' W n)) (by have := h.flle; have := h.blen; omega)
  have HH : Hid (∀ k b, Found l.starts x k b → b = true) := fun k b hf => (hf.here h.recs.rising (by rw [h.slen]; exact hir) (by rw [h.recs.at hir]; exact hx)).2
  have hxf : x < l.flushed + 1 := by
    rw [h.flu]
    have := placeOf_mono rs (show i + 1 ≤ sure by omega)
    have := (h.recs.le hir).1
    omega
  have k1 : decide (((l.flushed + 1 : Nat) : Int) ≤ (x : Int)) = false := by simp; omega
  have k2 : decide ((l.flushed : Int) + 1 ≤ (x : Int)) = false := by simp; omega
  have c0 := h.log.c0
  rw [h.dp] at c0
  have HC : Hid (∀ n, (W.drewN n).cell? ⟨q, 0, none⟩ = some (.pointer (some ⟨p, 0, none⟩))) := fun n => c0
  have HM : Hid (∀ n, Calls Try.prog 50 #[.pointer (some ⟨p, 0, none⟩), .int .u64 x] (W.drewN n) fun y w' => y = .returned (.int .i64 0) ∧ ∃ D', IsDisk w' p D' (markD d x) ∧ Moves D D' (W.drewN n) w') := fun n => setMark_out (h.disk.below (below_drewN' W n)) h.dead h.plan ⟨by have := h.calls; omega, by rw [h.loose]; simp⟩ x
  have HW := hid h
  have HI : Hid (i < sure ∧ placeOf rs i = x) := ⟨hi, hx⟩
  clear h hi hx hn hir c0
  go_enter Try.func31, Try.ntmps31
  go_wp2_with fail
  refine HF.out.mono ?_
  rintro e w2 ⟨⟨k, b, rfl, hf⟩, n, rfl⟩
  obtain rfl := HH.out k b hf
  clear hf HH HF
  go_wp2_with fail
  refine (HFL.out n).mono ?_
  rintro e w3 ⟨rfl, rfl⟩
  have c0 := HC.out n
  clear HFL
  go_wp2_with fail
  refine (HM.out n).mono ?_
  rintro e w4 ⟨rfl, D4, hd4, hm4⟩
  have hb4 := (HW.out.log.below (below_drewN' W n)).beside hm4 HW.out.off
  have c0' := hb4.1.c0
  rw [HW.out.dp] at c0'
  have hok4 : (markD d x).ok := ⟨fun y hy => by
    show y.ok
    have hy' : y ∈ d.loose ++ [⟨0, ⟨#[]⟩, x⟩] := hy
    rw [HW.out.loose] at hy'
    rw [List.mem_singleton.1 hy']
    exact ⟨by show (0 : Nat) < 4294967296; omega, by show (0 : Nat) ≤ 512; omega, fun e => absurd rfl e⟩, HW.out.ok.sure, by show d.nS + (d.loose ++ [_]).length ≤ 1000000; rw [HW.out.loose]; have := HW.out.nS; simp; omega, HW.out.ok.log, HW.out.ok.sl⟩
  have HS := hid (sync_out hd4 HW.out.dead HW.out.plan (by show d.calls + 1 ≤ _; have := HW.out.calls; omega) hok4)
  have H4 : Hid (IsLog w4 q S l ∧ (∀ k, S k → ¬ D4 k) ∧ Moves D D4 W w4) := ⟨hb4.1, hb4.2, ⟨⟨hm4.1.os, hm4.1.tape, hm4.1.output, hm4.1.size, hm4.1.block⟩, hm4.2⟩⟩
  clear hb4 hd4 hm4 hok4 HM
  go_wp2_with fail
  refine HS.out.mono ?_
  rintro e w5 ⟨rfl, D5, hd5, hm5⟩
  have hb5 := H4.out.1.beside hm5 H4.out.2.1
  rw [sync_mark x HW.out.loose] at hd5
  have HR : Hid (∃ D' d', WpL w5 p q S D' l d' rs sure kept x (j + 1) ∧ Moves D D' W w5) := by
    have h := HW.out
    refine ⟨D5, _, ⟨hb5.1, hd5, h.dp, hb5.2, h.bytes, h.recs, h.half, h.keeps, h.fits, h.sz, Nat.le_trans h.cnt (by omega), h.su, h.fl, h.dlog, h.dead, h.plan, ?_, ⟨?_, h.ok.sure, ?_, h.ok.log, h.ok.sl⟩, h.loose, h.sl, ?_, rfl, rfl, .inr ⟨i, HI.out⟩, hx64⟩, H4.out.2.2.trans hm5⟩
    · show d.calls + 1 + 1 ≤ _
      have := h.calls; omega
    · intro y hy
      have hy' : y ∈ d.loose := hy
      rw [h.loose] at hy'
      cases hy'
    · show d.nS + 1 + d.loose.length ≤ _
      rw [h.loose]
      have := h.nS
      simp; omega
    · show d.nS + 1 ≤ _
      have := h.nS; omega
  clear hd5 hm5 hb5 HS H4
  go_wp2
  go_ret
  exact ⟨rfl, HR.out⟩

end

/-- Where nothing is loose a fall changes nothing. -/
theorem fail_sure {d : DG} (f : FG) (hl : d.loose = []) (hs : d.sl = d.log.length) (hm : d.mark = d.sm) : failD f d = { d with dead := true, fresh := fun _ => none, nF := 0 } := by
  unfold failD
  have hn : logN d f.log = d.log.length := by unfold logN; omega
  rw [hn]
  simp [hl, failTo, List.take_length, hs, hm]

end Go.Proofs.Ythmhigjdjclckaa
