/-
  The walks of a transaction's part and pay, where nothing is left of the last debt; the closure of (*txn.Manager).Compensate.
-/
import Derived.Test.YtdhphbokkmofaaaGreatTxUpdateJ
import Derived.Defers
import Derived.Recover
import Derived.Test.YtdhphbokkmofaaaGreatTxMarkJ
set_option linter.unusedVariables false
set_option linter.unusedSimpArgs false
namespace Go.Proofs.YtdhphbokkmofaaaGreat
open Go.RowKit Go.Sort

set_option maxHeartbeats 1600000 in
set_option maxRecDepth 20000 in
theorem part_zero {S : Nat → Prop} {w : World} {b : Nat} {t : MtV} (h : MtAt S w b t) (hr : RisesD t.debts) (hn : t.debts.length ≤ 10000000) (long x : Nat) (hx : standN t.debts x = 0 ∨ standN t.debts x < t.debts.length) :
    Calls Tryz.prog 107 #[.pointer (some ⟨b, 0, none⟩), .int .i64 long, .int .u64 x] w fun r w' => r = .returned (.int .i64 0) ∧ Below w.heap.size w w' := by
  have HS := hidx (standing_any h hr hn x)
  have H := hidx h
  obtain ⟨k, HK⟩ : ∃ k, Hid (standN t.debts x = k) := ⟨_, rfl⟩
  rw [HK.out] at HS hx
  clear HK h hr
  by_cases hk : k = 0
  · subst hk
    clear hx
    go_enter Tryz.func107, Tryz.ntmps107
    go_wp2_with fail
    refine HS.out.mono ?_
    rintro r w1 ⟨rfl, b1⟩
    go_wp2
    go_ret
    exact ⟨rfl, b1⟩
  · have hlt : k < t.debts.length := by omega
    have d1 : ((k : Int) == 0) = false := by rw [beq_eq_false_iff_ne]; omega
    clear hx
    go_enter Tryz.func107, Tryz.ntmps107
    go_wp2_with fail
    refine HS.out.mono ?_
    rintro r w1 ⟨rfl, b1⟩
    obtain ⟨a, c, k1, _, _, _, _⟩ := (H.out.same (fun i hi => b1.block i (H.out.lt i hi)) b1.size).reads
    go_wp2
    go_ret
    exact ⟨rfl, b1⟩

set_option maxHeartbeats 1600000 in
set_option maxRecDepth 20000 in
theorem pay_zero (b : Nat) (w : World) :
    Calls Tryz.prog 111 #[.pointer (some ⟨b, 0, none⟩), .int .i64 0] w fun r w' => r = .returned (.tuple #[]) ∧ w = w' := by
  go_enter Tryz.func111, Tryz.ntmps111
  go_wp2
  go_end0
  exact ⟨rfl, rfl⟩

section
variable {w : World} {m p : Nat} {X : Int → Nat} {A : Nat → Prop} {P : PG} {l : LG} {d : DG} {M : MgG}

set_option maxHeartbeats 3200000 in
set_option maxRecDepth 20000 in
theorem comp1_any (h : MSys w m p X A P l d M) {n : Int} {t : MtV} (ht : M.T n = some t) (mb tb sb lb : Nat) (s : ByteArray) (left : Nat) (c0 : w.cell? ⟨mb, 0, none⟩ = some (.pointer (some ⟨m, 0, none⟩))) (c1 : w.cell? ⟨tb, 0, none⟩ = some (.pointer (some ⟨X n, 0, none⟩))) (c2 : w.cell? ⟨sb, 0, none⟩ = some (.string s)) (c3 : w.cell? ⟨lb, 0, none⟩ = some (.int .i64 left))
    (h1 : 1 ≤ s.size) (h2 : s.size ≤ 8192) (hr : left ≤ 10000000) (hk : t.kept ≤ 10000000) (hb : s.size + 12 + l.bytes.length ≤ 4194304) (hs : l.starts.length ≤ 10000000) (hl : l.kept + ((s.size + 12 + left) - t.kept) ≤ 4194304) (hm : s.size + 12 + left ≤ t.kept ∨ l.kept + ((s.size + 12 + left) - t.kept) + l.bytes.length ≤ 4194304) :
    Calls Tryz.prog 109 #[.pointer (some ⟨mb, 0, none⟩), .pointer (some ⟨tb, 0, none⟩), .pointer (some ⟨sb, 0, none⟩), .pointer (some ⟨lb, 0, none⟩)] w fun r w' => r = .returned (.tuple #[.int .u64 ((l.bytes.length + 1 : Nat) : Int), .int .i64 0]) ∧ ∃ A', MSys w' m p X A' P (spendL l t s left) d (M.set n (spendT l t s left)) ∧ Moves A A' w w' := by
  have HS := hidx (spend_any h ht s left h1 h2 hr hk hb hs hl hm)
  clear h ht h1 h2 hr hk hb hs hl hm
  go_enter Tryz.func109, Tryz.ntmps109
  go_wp2_with fail
  refine HS.out.mono ?_
  rintro r w1 ⟨rfl, A1, g1, mv1⟩
  have HF := hidx (⟨A1, g1, mv1⟩ : ∃ A', MSys w1 m p X A' P (spendL l t s left) d (M.set n (spendT l t s left)) ∧ Moves A A' w w1)
  clear g1 mv1 HS
  go_wp2
  go_ret2
  exact ⟨rfl, HF.out⟩

end

end Go.Proofs.YtdhphbokkmofaaaGreat

namespace Go.Proofs.YtdhphbokkmofaaaGreat
open Go.RowKit Go.Sort

theorem ask1_idle (p : Addr) (w : World) :
    CallsD Tryz.prog 164 #[.pointer (some p)] .returning w fun e u' w' => e = .returned (.tuple #[]) ∧ u' = .returning ∧ w' = w := by
  refine callsD_of_wpS Tryz.func164 rfl fun c₀ cs hu => ?_
  apply wpS_seq
  apply wpS_region
  simp [wpOpsS, go_sem, recoverD, hu, Tryz.ntmps164, Exit.thenS]
  refine wpS_cond (t := false) (by simp [Act.eval, Array.replicate]) ?_
  simp only [Bool.false_eq_true, if_false]
  refine wpS_of_wp (wp_skip ?_)
  cases c₀
  simp_all [bodyPostS, results, Tryz.results164]

section
variable {w : World} {m p : Nat} {X : Int → Nat} {A : Nat → Prop} {P : PG} {l : LG} {d : DG} {M : MgG}

set_option maxHeartbeats 3200000 in
set_option maxRecDepth 20000 in
theorem ask_any (h : MSys w m p X A P l d M) (n : Int) (r : RecV) (ta da : Option Addr) (tc dc : Nat) (fn : FuncId) (cap : Value) (P' : PG) (l' : LG) (M' : MgG)
    (hcf : ∀ wx, (callFunc fn #[.int .i64 n, .agg (r.cells ta da tc dc), cap]).run Tryz.prog wx = .ok (.enter fn #[.int .i64 n, .agg (r.cells ta da tc dc), cap]) wx)
    (hun : ∀ wx, Below w.heap.size w wx → Calls Tryz.prog fn #[.int .i64 n, .agg (r.cells ta da tc dc), cap] wx fun e w' => e = .returned (.int .i64 0) ∧ ∃ A', MSys w' m p X A' P' l' d M' ∧ Moves A A' wx w') :
    Calls Tryz.prog 101 #[.func (.func fn) #[] #[cap], .int .i64 n, .agg (r.cells ta da tc dc)] w fun e w' => e = .returned (.int .i64 0) ∧ ∃ A', MSys w' m p X A' P' l' d M' ∧ Moves A A' w w' := by
  have hmf : ∀ (fn : Fn) (first cap : Array Value) (w : World), (Instr.makeFunc fn first cap).run Tryz.prog w = .ok (.func fn first cap) w := fun _ _ _ _ => rfl
  obtain ⟨W1, HW1⟩ : ∃ W, Hid (W = w.alloc (.cells (r.cells ta da tc dc) 54)) := ⟨_, rfl⟩
  have b1 : Below w.heap.size w W1 := by rw [HW1.out]; exact (Below.refl _ _).alloc (Nat.le_refl _) _
  have x1 : BlkR W1 w.heap.size (r.cells ta da tc dc) 54 := by rw [HW1.out]; exact Blk.made _ _ _
  have z1 : W1.heap.size = w.heap.size + 1 := by rw [HW1.out]; simp
  obtain ⟨W, HW⟩ : ∃ W, Hid (W = W1.alloc (.cells #[.int .i64 0] 32)) := ⟨_, rfl⟩
  have b2 : Below W1.heap.size W1 W := by rw [HW.out]; exact (Below.refl _ _).alloc (Nat.le_refl _) _
  have xE : Blk W (w.heap.size + 1) #[.int .i64 0] 32 := by rw [HW.out, ← z1]; exact Blk.made _ _ _
  have xR : BlkR W w.heap.size (r.cells ta da tc dc) 54 := x1.same (b2.block _ x1.lt)
  have bW : Below w.heap.size w W := below_chain b1 b2
  have HU := hidx (hun W bW)
  have HPAR : Hid (r.cells ta da tc dc = #[.int .i64 r.kind, .int .i64 r.tx, .int .u64 r.prev, .int .u64 r.next, .int .u32 r.page, .int .i64 r.op.kind, .int .i64 r.op.at', .string r.op.S, .string r.op.old, .int .i64 r.undo, .int .i64 r.index, .string r.key, .int .u32 r.rpage, .int .i64 r.rslot, .bool r.live, .slice ta r.txs.length tc, .slice da r.dirty.length dc]) := rfl
  have hE : ∀ w', (∃ A', MSys w' m p X A' P' l' d M' ∧ Moves A A' W w') → (w'.cell? ⟨w.heap.size + 1, 0, none⟩ = some (.int .i64 0) ∧ w'.frozen? ⟨w.heap.size + 1, 0, none⟩ = false) ∧ ∃ A', MSys (w'.setCell ⟨w.heap.size + 1, 0, none⟩ (.int .i64 0)) m p X A' P' l' d M' ∧ Moves A A' w (w'.setCell ⟨w.heap.size + 1, 0, none⟩ (.int .i64 0)) := by
    rintro w' ⟨A', k1, k2⟩
    have hA : ¬ A (w.heap.size + 1) := fun x => by have := h.lt _ x; omega
    have ho := k2.off xE.lt hA
    have xE' : Blk w' (w.heap.size + 1) #[.int .i64 0] 32 := xE.same ho.1
    refine ⟨⟨xE'.cell 0, xE'.frozen 0⟩, A', k1.same (fun i hi => ?_) (by simp [World.setCell]), ?_⟩
    · have hne : i ≠ w.heap.size + 1 := fun e => ho.2 (e ▸ hi)
      simp [World.setCell, Array.getElem?_modify, Ne.symm hne]
    · exact ((Moves.of_kept (Kept.of_below bW)).trans k2).late (Kept.setCell (fun k => k = w.heap.size + 1) w' (w.heap.size + 1) 0 (.int .i64 0) rfl) (fun b e => by rw [e]; omega)
  have HE := hidx hE
  obtain ⟨z0, z1', z2, z3, z4, z5, z6, z7, z8, z9, z10, z11, z12, z13, z14, z15, z16⟩ := out_cells (r := r) (v := .slice ta r.txs.length tc) (u := .slice da r.dirty.length dc) xR
  have e0 := xE.cell 0
  have f0 := xE.frozen 0
  clear h hun b1 b2 x1 xE xR bW hE
  rw [HPAR.out] at hcf
  rw [HPAR.out]
  go_enter_defers Tryz.func101, Tryz.ntmps101
  go_upto_region 1 with fail
  rw [← HPAR.out, ← HW1.out, ← HW.out]
  clear HW1 HW
  go_wp2_with fail
  refine HU.out.mono ?_
  rintro e w5 ⟨rfl, hA5⟩
  obtain ⟨⟨g0, g1⟩, HF⟩ := HE.out w5 hA5
  have HG := hidx HF
  clear HF hA5 HE HU hcf z0 z1' z2 z3 z4 z5 z6 z7 z8 z9 z10 z11 z12 z13 z14 z15 z16 e0 f0
  go_wp2
  refine leaves_cons (f := 164) (args := #[.pointer (some ⟨w.heap.size + 1, 0, none⟩)]) (by simp) (by simp [go_sem]) ?_
  refine (ask1_idle ⟨w.heap.size + 1, 0, none⟩ _).mono ?_
  rintro e u' w'' ⟨rfl, rfl, rfl⟩
  simp [Leaves, settle, results, Tryz.results101, go_sem, g0]
  exact HG.out

end

end Go.Proofs.YtdhphbokkmofaaaGreat

namespace Go.Proofs.YtdhphbokkmofaaaGreat
open Go.RowKit Go.Sort

section
variable {w : World} {m p : Nat} {X : Int → Nat} {A : Nat → Prop} {P : PG} {l : LG} {d : DG} {M : MgG}

set_option maxHeartbeats 1600000 in
set_option maxRecDepth 20000 in
theorem pass_other (h : MSys w m p X A P l d M) (n : Int) (hn1 : -9223372036854775808 ≤ n) (hn2 : n ≤ 9223372036854775807) {t : MtV} (ht : M.T n = some t) (at' prev : Nat) (hne : t.next ≠ at') :
    Calls Tryz.prog 102 #[.pointer (some ⟨m, 0, none⟩), .int .i64 n, .int .u64 at', .int .u64 prev] w fun e w' => e = .returned (.int .i64 0) ∧ w = w' := by
  have HFI := hidx (find_yes h n hn1 hn2 ht)
  obtain ⟨S, hT, _, _⟩ := h.tx ht
  have c3 := hT.cells.c3
  have d1 : ((t.next : Int) == (at' : Int)) = false := by rw [beq_eq_false_iff_ne]; omega
  clear h ht hT
  go_enter Tryz.func102, Tryz.ntmps102
  go_wp2_with fail
  refine HFI.out.mono ?_
  rintro e w1 ⟨rfl, rfl⟩
  clear HFI
  go_wp2
  go_ret
  exact ⟨rfl, rfl⟩

set_option maxHeartbeats 1600000 in
set_option maxRecDepth 20000 in
theorem mpool_any (h : MSys w m p X A P l d M) :
    Calls Tryz.prog 33 #[.pointer (some ⟨m, 0, none⟩)] w fun e w' => e = .returned (.pointer (some ⟨p, 0, none⟩)) ∧ w = w' := by
  obtain ⟨tb, c0, c1, c2, c3, _⟩ := h.reads
  clear h c1 c2 c3
  go_enter Tryz.func33, Tryz.ntmps33
  go_wp2
  go_ret
  exact ⟨rfl, rfl⟩

end

end Go.Proofs.YtdhphbokkmofaaaGreat

namespace Go.Proofs.YtdhphbokkmofaaaGreat
open Go.RowKit Go.Sort

def mg0 : MgG := ⟨fun _ => none, 0, 1, []⟩

theorem MgAt.start (w : World) (p : Nat) (X : Int → Nat) :
    MgAt ((w.alloc (.map #[] 0)).alloc (.cells #[.pointer (some ⟨p, 0, none⟩), .map (some w.heap.size), .int .i64 1, .slice none 0 0] 128)) (w.heap.size + 1) w.heap.size (.slice none 0 0) (.map []) X (fun _ _ => False) (fun k => k = w.heap.size ∨ k = w.heap.size + 1) p mg0 := by
  have z : (w.alloc (.map #[] 0)).heap.size = w.heap.size + 1 := by simp
  refine ⟨?_, ?_, fun n _ => rfl, (fun n t e => by cases e), (fun l hl => by cases hl), World.ownsRow_nil _ _ _ _, fun n n' _ h => absurd rfl h, fun n h => absurd rfl h, (fun e => by cases e), .inr rfl, .inl rfl, (fun g e => by cases e), fun n h => absurd rfl h, ?_⟩
  · have := Blk.made (w.alloc (.map #[] 0)) #[.pointer (some ⟨p, 0, none⟩), .map (some w.heap.size), .int .i64 1, .slice none 0 0] 128
    rw [z] at this
    exact this
  · exact (MapV.made 3 w).same (heap_old _ _ (by rw [z]; omega))
  · rintro k (rfl | rfl)
    · simp; omega
    · simp

section
variable {w : World} {p : Nat} {A : Nat → Prop} {P : PG} {l : LG} {d : DG}

set_option maxHeartbeats 1600000 in
set_option maxRecDepth 20000 in
theorem tnew_any (h : Sys w p A P l d) (X : Int → Nat) :
    Calls Tryz.prog 24 #[.pointer (some ⟨p, 0, none⟩)] w fun e w' => e = .returned (.pointer (some ⟨w.heap.size + 1, 0, none⟩)) ∧ ∃ A', MSys w' (w.heap.size + 1) p X A' P l d mg0 ∧ Moves A A' w w' := by
  have b : Below w.heap.size w ((w.alloc (.map #[] 0)).alloc (.cells #[.pointer (some ⟨p, 0, none⟩), .map (some w.heap.size), .int .i64 1, .slice none 0 0] 128)) := ((Below.refl _ _).alloc (Nat.le_refl _) _).alloc (by simp) _
  have hM := MgAt.start w p X
  have HF : Hid (∃ A', MSys ((w.alloc (.map #[] 0)).alloc (.cells #[.pointer (some ⟨p, 0, none⟩), .map (some w.heap.size), .int .i64 1, .slice none 0 0] 128)) (w.heap.size + 1) p X A' P l d mg0 ∧ Moves A A' w ((w.alloc (.map #[] 0)).alloc (.cells #[.pointer (some ⟨p, 0, none⟩), .map (some w.heap.size), .int .i64 1, .slice none 0 0] 128))) := by
    refine hidx ⟨fun k => A k ∨ (k = w.heap.size ∨ k = w.heap.size + 1), ⟨⟨A, fun k => k = w.heap.size ∨ k = w.heap.size + 1, h.below b, ⟨_, _, _, _, hM⟩, fun k x y => ?_, fun k x => x⟩, ?_⟩, (Kept.of_below b), ?_⟩
    · have := h.lt k x; omega
    · rintro k (x | x)
      · exact Nat.lt_of_lt_of_le (h.lt k x) b.size
      · exact hM.lt k x
    · rintro k (x | x)
      · exact .inl x
      · exact .inr (by omega)
  have hmm := @run_makeMap Tryz.prog
  clear h b hM
  go_enter Tryz.func24, Tryz.ntmps24
  go_wp2
  go_ret
  exact ⟨rfl, HF.out⟩

end

end Go.Proofs.YtdhphbokkmofaaaGreat
