/-
  The walks of girderlaw02.page, girderref02.Zeros and girderlaw02.awake.
-/
import Derived.Test.YtlkbdjeejkghgaaDiskSync
import Derived.Test.YtlkbdjeejkghgaaRowBytes
namespace Go.Proofs.Ytlkbdjeejkghgaa
open Go.RowKit
set_option linter.unusedVariables false

/-- A page of one byte. -/
def pageS (b : UInt8) : ByteArray := ⟨(List.replicate 512 b).toArray⟩

theorem pageS_size (b : UInt8) : (pageS b).size = 512 := by
  show (List.replicate 512 b).toArray.size = 512
  rw [List.size_toArray]
  exact List.length_replicate

set_option maxHeartbeats 800000 in
set_option maxRecDepth 8000 in
theorem page_any (b : UInt8) (w : World) :
    Calls Try.prog 8 #[.int .u8 b.toNat] w fun e w' => e = .returned (.string (pageS b)) ∧ Below w.heap.size w w' := by
  have hmk := run_make_row' (P := Try.prog) 22 5 (.int .u8 0) 1 Try.underlying22 infoB rfl .i64 .i64 512 (by omega) (by omega)
  rw [show ((512 : Nat) : Int) = 512 from rfl] at hmk
  have hlen : (List.replicate 512 b).length = 512 := List.length_replicate
  have hget : ∀ j (hj : j < (List.replicate 512 b).length), (List.replicate 512 b)[j] = b := fun j hj => List.getElem_replicate hj
  unfold pageS
  generalize List.replicate 512 b = L at hlen hget ⊢
  have HL : Hid (∀ j (hj : j < L.length), L[j] = b) := hget
  clear hget
  go_enter Try.func8, Try.ntmps8
  go_wp2_with fail
  go_loopw [4] (fun i wr => ∃ k : Nat, k ≤ 512 ∧ i = .int .i64 k ∧ Below w.heap.size w wr ∧ RowU wr w.heap.size 512 (fun j => if j < k then (b.toNat : Int) else 0)) (fun i _ => 512 - (intOf i).toNat)
  case atStart => exact ⟨0, by omega, rfl, (Below.refl _ _).alloc (Nat.le_refl _) _, (RowU.made w 512 _).congr (fun j _ => by simp)⟩
  case round =>
    obtain ⟨k, hk, rfl, hb, hr⟩ := hrel
    by_cases hlt : k < 512
    · have hck := (hr k hlt).1
      have hfk := (hr k hlt).2
      go_wp2
      go_roundw
      case rel =>
        refine ⟨k + 1, by omega, by go_num, hb.setCell (Nat.le_refl _) _, (hr.set hlt _).congr (fun j hj => ?_)⟩
        by_cases e : j = k
        · subst e; rw [if_pos rfl, if_pos (by omega)]
        · rw [if_neg e]; by_cases h : j < k
          · rw [if_pos h, if_pos (by omega)]
          · rw [if_neg h, if_neg (by omega)]
      case measure => simp [intOf]; omega
    · obtain rfl : k = 512 := by omega
      have hcv := hr.toString (P := Try.prog) (c := 512) L hlen (fun j hj => by have e := HL.out j hj; rw [hlen] at hj; rw [if_pos hj, e]) 22 9 5 Try.underlying22 Try.underlying5 Try.underlying9
      clear hr
      go_wp2
      go_ret
      exact ⟨rfl, hb⟩

set_option maxHeartbeats 800000 in
set_option maxRecDepth 8000 in
theorem zerosRef_any (w : World) : Calls Try.prog 6 #[] w fun e w' => e = .returned (.string zerosS) ∧ Below w.heap.size w w' := by
  have hmk := run_make_row' (P := Try.prog) 22 5 (.int .u8 0) 1 Try.underlying22 infoB rfl .i64 .i64 512 (by omega) (by omega)
  rw [show ((512 : Nat) : Int) = 512 from rfl] at hmk
  have hlen : zerosL.length = 512 := List.length_replicate
  have hget : ∀ j (hj : j < zerosL.length), zerosL[j] = 0 := fun j hj => List.getElem_replicate hj
  have hr := RowU.made w 512 5
  have hcv := hr.toString (P := Try.prog) (c := 512) zerosL hlen (fun j hj => by rw [hget j hj]; rfl) 22 9 5 Try.underlying22 Try.underlying5 Try.underlying9
  clear hr hget
  unfold zerosS
  generalize zerosL = L at *
  go_enter Try.func6, Try.ntmps6
  go_wp2
  go_ret
  exact ⟨rfl, (Below.refl _ _).alloc (Nat.le_refl _) _⟩

/-! The disk of awake. -/

theorem new_out (w : World) (room : Nat) (h1 : 8 ≤ room) (h2 : room ≤ 2048) (S : Nat → Prop) :
    Calls Try.prog 4 #[.int .i64 room] w fun e w' => ∃ p, e = .returned (.tuple #[.pointer (some ⟨p, 0, none⟩), .int .i64 0]) ∧ (∃ S', IsDisk w' p S' (newD room) ∧ Moves S S' w w' ∧ ∀ k, S' k → w.heap.size ≤ k) ∧ Below w.heap.size w w' := by
  refine (new_any w room h1 h2).mono ?_
  rintro e w' ⟨p, rfl, ⟨m, hd, hm⟩, hb⟩
  refine ⟨p, rfl, ⟨m.has p, ⟨m, hd, fun _ x => x, ?_⟩, ⟨Kept.of_below hb, fun k x => .inr (hm k x)⟩, hm⟩, hb⟩
  rintro k (rfl | x)
  · exact hd.lt
  · exact hd.rest_lt x

/-- What holds of a disk without a plan that is on, all along. -/
structure Calm (d : DG) (n : Nat) : Prop where
  dead : d.dead = false
  plan : d.plan = []
  calls : d.calls ≤ n
  ok : d.ok
  long : d.nS + d.loose.length ≤ n
  nF : d.nF ≤ n

theorem Calm.new {room : Nat} : Calm (newD room) 0 :=
  ⟨rfl, rfl, Nat.le_refl _, ⟨(by intro x hx; cases hx), fun q => zerosS_size, by simp [newD], by simp [newD], by simp [newD]⟩, by simp [newD], Nat.le_refl _⟩

theorem Calm.wr {d : DG} {n : Nat} (h : Calm d n) (hn : n < 1000000) {q : Nat} (hq : q < 4294967296) {s : ByteArray} (hs : s.size = 512) : Calm (wrD d q s) (n + 1) := by
  have h1 := h.long
  have h2 := h.calls
  have h3 := h.nF
  refine ⟨h.dead, h.plan, by show d.calls + 1 ≤ _; omega, ⟨?_, h.ok.sure, by show d.nS + (d.loose ++ [_]).length ≤ _; simp; omega, h.ok.log, h.ok.sl⟩, by show d.nS + (d.loose ++ [_]).length ≤ _; simp; omega, by show d.nF + 1 ≤ _; omega⟩
  intro x hx
  rcases List.mem_append.1 hx with hx | hx
  · exact h.ok.loose x hx
  · rw [List.mem_singleton] at hx
    subst hx
    exact ⟨hq, by show s.size ≤ 512; omega, fun _ => hs⟩

theorem keepTo_size {l : List LW} (hl : ∀ x ∈ l, x.ok) {u : (Nat → ByteArray) × Nat} (hu : ∀ q, (u.1 q).size = 512) (n q : Nat) : ((keepTo l u n).1 q).size = 512 := by
  induction n generalizing q with
  | zero => exact hu q
  | succ n ih =>
    cases h : l[n]? with
    | none => simp only [keepTo, h]; exact ih q
    | some x =>
      rw [keepTo_succ h]
      exact keepF_size (hl x (List.mem_of_getElem? h)) (fun q => ih q) q

theorem Calm.sync {d : DG} {n : Nat} (h : Calm d n) (hn : n < 1000000) : Calm (syncD d) (n + 1) := by
  have h1 := h.long
  have h2 := h.calls
  exact ⟨h.dead, h.plan, by show d.calls + 1 ≤ _; omega, ⟨(by intro x hx; cases hx), fun q => keepTo_size h.ok.loose h.ok.sure _ q, by show d.nS + d.loose.length + 0 ≤ _; omega, h.ok.log, h.ok.sl⟩,
    by show d.nS + d.loose.length + 0 ≤ _; omega, Nat.zero_le _⟩

/-- The disk stands up again behind a fall. -/
def upD (f : FG) (d : DG) : DG := { failD f d with dead := false }

theorem Calm.up {d : DG} {n : Nat} (h : Calm d n) (f : FG) : Calm (upD f d) n := by
  have h1 := h.long
  have h2 := h.calls
  have hk := h.ok
  have hs := hk.sl
  have hl : logN d f.log ≤ d.log.length := by unfold logN; omega
  refine ⟨rfl, h.plan, h2, ⟨(by intro x hx; cases hx), fun q => failTo_size hk.loose hk.sure _ q, ?_, ?_, ?_⟩, ?_, Nat.zero_le _⟩
  · have := hk.n; show d.nS + d.loose.length + 0 ≤ _; omega
  · show (d.log.take (logN d f.log)).length ≤ _; have := hk.log; rw [List.length_take]; omega
  · show logN d f.log ≤ (d.log.take (logN d f.log)).length; rw [List.length_take]; omega
  · show d.nS + d.loose.length + 0 ≤ _; omega

theorem Calm.mono {d : DG} {n n' : Nat} (h : Calm d n) (hn : n ≤ n') : Calm d n' := ⟨h.dead, h.plan, Nat.le_trans h.calls hn, h.ok, Nat.le_trans h.long hn, Nat.le_trans h.nF hn⟩

/-- The fall that keeps nothing. -/
def fall0 : FG := ⟨0, 0, 0, 0, 0⟩

theorem awake_reads : readD (upD fall0 (wrD (syncD (wrD (newD 8) 1 (pageS 1))) 1 (pageS 2))) 1 = pageS 1 := by
  unfold readD upD failD wrD syncD newD
  simp [failTo, failStep, fall0, bitB, keepTo, keepF]

theorem checkE_ok {room q : Nat} (h1 : 1 ≤ q) (h2 : q ≤ room) (h3 : room ≤ 2048) : checkE room q = 0 := by
  unfold checkE
  rw [if_neg (by omega), if_neg]
  have : (q - 1) % 2048 = q - 1 := Nat.mod_eq_of_lt (by omega)
  omega

set_option maxHeartbeats 1600000 in
set_option maxRecDepth 8000 in
theorem awake_any (w : World) : Calls Try.prog 5 #[] w fun e w' => e = .returned (.bool true) ∧ Below w.heap.size w w' := by
  go_enter Try.func5, Try.ntmps5
  go_wp2_with fail
  refine (new_out w 8 (by omega) (by omega) (fun _ => False)).mono ?_
  rintro e w1 ⟨p, rfl, ⟨S1, hd1, hm1, _⟩, _⟩
  have c1 : Calm (newD 8) 0 := Calm.new
  have HD1 : Hid (IsDisk w1 p S1 (newD 8) ∧ Moves (fun _ => False) S1 w w1) := ⟨hd1, hm1⟩
  clear hd1 hm1
  go_wp2_with fail
  refine (page_any 1 _).mono ?_
  rintro e w2 ⟨rfl, b2⟩
  obtain ⟨hd1, hm1⟩ := HD1.out
  have HD2 : Hid (IsDisk w2 p S1 (newD 8) ∧ Moves (fun _ => False) S1 w w2) := ⟨hd1.below b2, hm1.kept (Kept.of_below b2)⟩
  clear hd1 hm1 b2 HD1
  go_wp2_with fail
  refine (write_out HD2.out.1 rfl rfl (by decide) 1 (by omega) (checkE_ok (by omega) (by show 1 ≤ 8; omega) (by show 8 ≤ 2048; omega)) _ (pageS_size 1)).mono ?_
  rintro e w3 ⟨rfl, S3, hd3, hm3⟩
  have HD3 : Hid (IsDisk w3 p S3 (wrD (newD 8) 1 (pageS 1)) ∧ Moves (fun _ => False) S3 w w3) := ⟨hd3, HD2.out.2.trans hm3⟩
  have c3 : Calm (wrD (newD 8) 1 (pageS 1)) 1 := c1.wr (by omega) (by omega) (pageS_size 1)
  clear hd3 hm3 HD2
  go_wp2_with fail
  refine (sync_out HD3.out.1 c3.dead c3.plan (by have := c3.calls; omega) c3.ok).mono ?_
  rintro e w4 ⟨rfl, S4, hd4, hm4⟩
  have HD4 : Hid (IsDisk w4 p S4 (syncD (wrD (newD 8) 1 (pageS 1))) ∧ Moves (fun _ => False) S4 w w4) := ⟨hd4, HD3.out.2.trans hm4⟩
  have c4 : Calm (syncD (wrD (newD 8) 1 (pageS 1))) 2 := c3.sync (by omega)
  clear hd4 hm4 HD3
  go_wp2_with fail
  refine (page_any 2 _).mono ?_
  rintro e w5 ⟨rfl, b5⟩
  obtain ⟨hd4, hm4⟩ := HD4.out
  have HD5 : Hid (IsDisk w5 p S4 (syncD (wrD (newD 8) 1 (pageS 1))) ∧ Moves (fun _ => False) S4 w w5) := ⟨hd4.below b5, hm4.kept (Kept.of_below b5)⟩
  clear hd4 hm4 b5 HD4
  go_wp2_with fail
  refine (write_out HD5.out.1 c4.dead c4.plan (by have := c4.calls; have := c4.long; have := c4.nF; omega) 1 (by omega) (checkE_ok (by omega) (by show 1 ≤ 8; omega) (by show 8 ≤ 2048; omega)) _ (pageS_size 2)).mono ?_
  rintro e w6 ⟨rfl, S6, hd6, hm6⟩
  have HD6 : Hid (IsDisk w6 p S6 (wrD (syncD (wrD (newD 8) 1 (pageS 1))) 1 (pageS 2)) ∧ Moves (fun _ => False) S6 w w6) := ⟨hd6, HD5.out.2.trans hm6⟩
  have c6 : Calm (wrD (syncD (wrD (newD 8) 1 (pageS 1))) 1 (pageS 2)) 3 := c4.wr (by omega) (by omega) (pageS_size 2)
  clear hd6 hm6 HD5
  go_wp2_with fail
  refine (crash_out HD6.out.1 c6.dead c6.ok fall0 (by decide)).mono ?_
  rintro e w7 ⟨rfl, S7, hd7, hm7⟩
  have HD7 : Hid (IsDisk w7 p S7 (failD fall0 (wrD (syncD (wrD (newD 8) 1 (pageS 1))) 1 (pageS 2))) ∧ Moves (fun _ => False) S7 w w7) := ⟨hd7, HD6.out.2.trans hm7⟩
  clear hd7 hm7 HD6
  go_wp2_with fail
  refine (up_out HD7.out.1).mono ?_
  rintro e w8 ⟨rfl, S8, hd8, hm8⟩
  have HD8 : Hid (IsDisk w8 p S8 (upD fall0 (wrD (syncD (wrD (newD 8) 1 (pageS 1))) 1 (pageS 2))) ∧ Moves (fun _ => False) S8 w w8) := ⟨hd8, HD7.out.2.trans hm8⟩
  have c8 : Calm (upD fall0 (wrD (syncD (wrD (newD 8) 1 (pageS 1))) 1 (pageS 2))) 3 := c6.up fall0
  clear hd8 hm8 HD7
  go_wp2_with fail
  refine (read_out HD8.out.1 c8.dead 1 (by omega) (checkE_ok (by omega) (by show 1 ≤ 8; omega) (by show 8 ≤ 2048; omega)) (by rw [awake_reads, pageS_size]; omega)).mono ?_
  rintro e w9 ⟨rfl, b9⟩
  rw [awake_reads]
  have HB9 : Hid (Kept (fun _ => False) w w9) := (HD8.out.2.kept (Kept.of_below b9)).1
  clear b9 HD8
  go_wp2_with fail
  refine (page_any 1 _).mono ?_
  rintro e w10 ⟨rfl, b10⟩
  have HBA : Hid (Kept (fun _ => False) w w10) := HB9.out.trans (Kept.of_below b10)
  clear b10 HB9
  generalize pageS 1 = pg at *
  go_wp2
  go_ret
  have hk := HBA.out
  exact ⟨rfl, ⟨hk.os, hk.tape, hk.output, hk.size, fun k hk' => hk.block k hk' id⟩⟩

end Go.Proofs.Ytlkbdjeejkghgaa
