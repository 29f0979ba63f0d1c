/-
  What a pool reads of a new disk on which both places of page 5 were spoilt.
-/
import Derived.Test.YtdhphbokkmofaaaGreatPoolReadJ
import Derived.Test.YtdhphbokkmofaaaGreatWalRoomJ
import Derived.Test.YtdhphbokkmofaaaGreatRecReadJ
import Derived.Test.YtdhphbokkmofaaaGreatRepeatJ
import Derived.Test.YtdhphbokkmofaaaGreatTxMarkJ
import Derived.Deep.AppendLies
import Derived.Deep.RegionHeld3
set_option linter.unusedVariables false
set_option linter.unusedSimpArgs false
namespace Go.Proofs.YtdhphbokkmofaaaGreat
open Go.RowKit Go.Sort Go.Shelf

theorem zeros_zerosB : zerosB zerosS.data.toList = true := by
  rw [zerosB_iff]
  show dzerosL = List.replicate dzerosL.length 0
  unfold dzerosL
  rw [List.length_replicate]

theorem dec_zeros : decE zerosS = 0 ∧ decP zerosS = sheet0 := by
  have h := zerosS_size
  have hE : decE zerosS = 0 := by
    unfold decE
    rw [if_neg (by omega), if_neg (by omega), if_pos zeros_zerosB]
  refine ⟨hE, ?_⟩
  unfold decP
  rw [if_neg (by rw [zeros_zerosB]; simp)]

end Go.Proofs.YtdhphbokkmofaaaGreat

namespace Go.Proofs.YtdhphbokkmofaaaGreat
open Go.RowKit

section
variable {w : World} {p : Nat} {S : Nat → Prop} {d : DG}

end

section
variable {w : World} {p : Nat} {S : Nat → Prop} {l : LG}

set_option maxHeartbeats 800000 in
set_option maxRecDepth 8000 in
theorem flush_none (h : IsLog w p S l) (hf : l.flushed ≤ l.bytes.length) (hb : l.bytes.length ≤ 4194304) (up : Nat) (hto : l.flushed = l.bytes.length ∨ up < l.flushed + 1) :
    Calls Tryz.prog 134 #[.pointer (some ⟨p, 0, none⟩), .int .u64 up] w fun e w' => e = .returned (.int .i64 0) ∧ Below w.heap.size w w' := by
  have HFL : Hid (∀ W : World, W.heap = w.heap → Calls Tryz.prog 181 #[.pointer (some ⟨p, 0, none⟩)] W fun e w' => e = .returned (.int .u64 ((l.flushed + 1 : Nat) : Int)) ∧ w' = W) := fun W hW => flushed_out (h.same (fun k hk => by rw [hW]) (by rw [hW]; exact Nat.le_refl _)) (by omega)
  obtain ⟨ba, bc, sv, hC⟩ := h.lcells
  have c1 := hC.c1
  have c3 := hC.c3
  clear hC h
  by_cases he : l.flushed = l.bytes.length
  · have k0 : ((l.flushed : Int) == (l.bytes.length : Int)) = true := by rw [he]; simp
    clear he hto hf
    go_enter Tryz.func134, Tryz.ntmps134
    go_wp2_with fail
    go_quiet (fail)
    go_wp2
    go_ret
    exact ⟨rfl, below_drewN' _ _⟩
  · have k0 : ((l.flushed : Int) == (l.bytes.length : Int)) = false := by rw [beq_eq_false_iff_ne]; omega
    have k1 : decide ((up : Int) < ((l.flushed + 1 : Nat) : Int)) = true := by simp; omega
    have k2 : decide ((up : Int) < (l.flushed : Int) + 1) = true := by simp; omega
    go_enter Tryz.func134, Tryz.ntmps134
    go_wp2_with fail
    go_region_held3 (fun w' => w'.cell? ⟨p, 1, none⟩ = some (.slice ba l.bytes.length bc) ∧ w'.cell? ⟨p, 3, none⟩ = some (.int .i64 l.flushed)) (first | exact ⟨c1, c3⟩ | go_keep)
      (first | (go_at_call 181; refine (HFL.out w.drew rfl).mono ?_; rintro x w3 ⟨rfl, rfl⟩))
    go_wp2
    go_ret
    exact ⟨rfl, (Below.refl _ _).drew⟩

end

end Go.Proofs.YtdhphbokkmofaaaGreat

namespace Go.Proofs.YtdhphbokkmofaaaGreat
open Go.RowKit Go.Sort Go.Shelf

structure DevS (w : World) (p : Nat) (S B : Nat → Prop) (P : PG) (l : LG) (d : DG) : Prop where
  pool : IsPool w p S P
  ex : ∃ L D, IsLog w P.lp L l ∧ IsDisk w P.dp D d ∧ (∀ k, L k → ¬ D k) ∧ ∀ k, L k ∨ D k → B k
  sb : ∀ k, S k → ¬ B k
  ld : l.dp = P.dp
  lt : ∀ k, B k → k < w.heap.size

theorem Sys.dev {w : World} {p : Nat} {A : Nat → Prop} {P : PG} {l : LG} {d : DG} (h : Sys w p A P l d) : ∃ S B, DevS w p S B P l d ∧ ∀ k, S k ∨ B k → A k := by
  obtain ⟨⟨S, L, D, hP, hL, hD, g4, g5, g6, g7⟩, g8, g9⟩ := h
  refine ⟨S, fun k => L k ∨ D k, ⟨hP, ⟨L, D, hL, hD, g6, fun _ x => x⟩, ?_, g8, ?_⟩, ?_⟩
  · rintro k x (y | y)
    · exact g4 k x y
    · exact g5 k x y
  · rintro k (x | x)
    · exact hL.lt x
    · exact hD.lt x
  · rintro k (x | x | x)
    · exact g7 k (.inl x)
    · exact g7 k (.inr (.inl x))
    · exact g7 k (.inr (.inr x))

section
variable {w w' : World} {p : Nat} {S B : Nat → Prop} {P : PG} {l : LG} {d : DG}

theorem DevS.sys (h : DevS w p S B P l d) : Sys w p (fun k => S k ∨ B k) P l d := by
  obtain ⟨hP, ⟨L, D, hL, hD, g6, g7⟩, sb, g8, g9⟩ := h
  refine ⟨⟨S, L, D, hP, hL, hD, fun k x y => sb k x (g7 k (.inl y)), fun k x y => sb k x (g7 k (.inr y)), g6, ?_⟩, g8, ?_⟩
  · rintro k (x | x)
    · exact .inl x
    · exact .inr (g7 k x)
  · rintro k (x | x)
    · exact hP.lt x
    · exact g9 k x

theorem DevS.same (h : DevS w p S B P l d) (k1 : ∀ b, S b → w'.heap[b]? = w.heap[b]?) (k2 : ∀ b, B b → w'.heap[b]? = w.heap[b]?) (hs : w.heap.size ≤ w'.heap.size) : DevS w' p S B P l d := by
  obtain ⟨hP, ⟨L, D, hL, hD, g6, g7⟩, sb, g8, g9⟩ := h
  exact ⟨hP.same k1 hs, ⟨L, D, hL.same (fun b hb => k2 b (g7 b (.inl hb))) hs, hD.same (fun b hb => k2 b (g7 b (.inr hb))) hs, g6, g7⟩, sb, g8, fun b hb => Nat.lt_of_lt_of_le (g9 b hb) hs⟩

theorem DevS.below (h : DevS w p S B P l d) (k : Below w.heap.size w w') : DevS w' p S B P l d := h.same (fun b hb => k.block b (h.pool.lt hb)) (fun b hb => k.block b (h.lt b hb)) k.size

theorem DevS.still (h : DevS w p S B P l d) {B' : Nat → Prop} (hm : Moves B B' w w') : ∀ k, S k → w'.heap[k]? = w.heap[k]? := fun k hk => (hm.off (h.pool.lt hk) (h.sb k hk)).1

theorem DevS.log (h : DevS w p S B P l d) : ∃ L, IsLog w P.lp L l ∧ (∀ k, L k → B k) ∧ ∀ w' L' l', IsLog w' P.lp L' l' → l'.dp = l.dp → Moves L L' w w' → ∃ B', DevS w' p S B' P l' d ∧ Moves B B' w w' := by
  have h' := h
  obtain ⟨hP, ⟨L, D, hL, hD, g6, g7⟩, sb, g8, g9⟩ := h
  refine ⟨L, hL, fun k x => g7 k (.inl x), fun w' L' l' hL' hdp hm => ?_⟩
  have kD := hD.beside hm fun k x y => g6 k y x
  have hm' : Moves B (fun k => L' k ∨ D k) w w' := ⟨hm.1.mono fun k x => g7 k (.inl x), by
    rintro k (x | x)
    · rcases hm.2 k x with y | y
      · exact .inl (g7 k (.inl y))
      · exact .inr y
    · exact .inl (g7 k (.inr x))⟩
  refine ⟨fun k => L' k ∨ D k, ⟨hP.same (h'.still hm') hm.1.size, ⟨L', D, hL', kD.1, fun k x y => kD.2 k y x, fun _ x => x⟩, fun k x => (hm'.off (hP.lt x) (sb k x)).2, hdp.trans g8, ?_⟩, hm'⟩
  rintro k (x | x)
  · exact hL'.lt x
  · exact kD.1.lt x

end

end Go.Proofs.YtdhphbokkmofaaaGreat

namespace Go.Proofs.YtdhphbokkmofaaaGreat
open Go.RowKit Go.Sort Go.Shelf

structure DOk (d : DG) (N : Nat) : Prop where
  up : d.dead = false
  np : d.plan = []
  ok : d.ok
  no : d.loose = []
  fr : ∀ q, d.fresh q = none
  nf : d.nF ≤ 10
  calls : d.calls ≤ N
  ns : d.nS ≤ N

end Go.Proofs.YtdhphbokkmofaaaGreat

namespace Go.Proofs.YtdhphbokkmofaaaGreat
open Go.RowKit Go.Sort Go.Shelf

def flB (l : LG) (up : Nat) : Bool := decide (l.flushed < l.bytes.length ∧ l.flushed + 1 ≤ up)
def flL (l : LG) (up : Nat) : LG := if flB l up = true then { l with flushed := l.bytes.length } else l
def flD (l : LG) (d : DG) (up : Nat) : DG := if flB l up = true then flushD l d else d

structure LOk (l : LG) (d : DG) : Prop where
  half : l.half = false
  fl : l.flushed ≤ l.bytes.length
  most : l.bytes.length ≤ 4194304
  at' : d.log.length = l.flushed

theorem LOk.fl' {l : LG} {d : DG} (h : LOk l d) (up : Nat) : LOk (flL l up) (flD l d up) := by
  unfold flL flD
  split
  · refine ⟨h.half, Nat.le_refl _, h.most, ?_⟩
    show (d.log ++ (ByteArray.mk (l.bytes.drop l.flushed).toArray).data.toList).length = l.bytes.length
    have := h.at'
    have := h.fl
    simp
    omega
  · exact h

theorem DOk.mono {d : DG} {N N' : Nat} (h : DOk d N) (k : N ≤ N') : DOk d N' := ⟨h.up, h.np, h.ok, h.no, h.fr, h.nf, Nat.le_trans h.calls k, Nat.le_trans h.ns k⟩

theorem DOk.fl {l : LG} {d : DG} {N : Nat} (h : DOk d N) (hl : LOk l d) (up : Nat) : DOk (flD l d up) (N + 2) ∧ (∀ q, readD (flD l d up) q = readD d q) ∧ (flD l d up).room = d.room := by
  unfold flD
  split
  · have h1 := h.calls
    have h2 := h.ns
    have h3 := hl.at'
    have h4 := hl.fl
    have h5 := hl.most
    have hlen : (flushD l d).log.length = l.bytes.length := by
      show (d.log ++ (ByteArray.mk (l.bytes.drop l.flushed).toArray).data.toList).length = l.bytes.length
      simp
      omega
    refine ⟨⟨h.up, h.np, ⟨h.ok.loose, h.ok.sure, h.ok.n, by rw [hlen]; exact h5, Nat.le_refl _⟩, h.no, h.fr, h.nf, ?_, ?_⟩, fun q => rfl, rfl⟩
    · show d.calls + 1 + 1 ≤ N + 2
      omega
    · show d.nS ≤ N + 2
      omega
  · exact ⟨h.mono (by omega), fun q => rfl, rfl⟩

theorem sys_flush {w : World} {p : Nat} {S A : Nat → Prop} {P : PG} {l : LG} {d : DG} {N : Nat} (hS : DevS w p S A P l d) (hd : DOk d N) (hN : N ≤ 90000) (hl : LOk l d) (up : Nat) :
    Calls Tryz.prog 134 #[.pointer (some ⟨P.lp, 0, none⟩), .int .u64 up] w fun e w' => e = .returned (.int .i64 0) ∧ ∃ A', DevS w' p S A' P (flL l up) (flD l d up) ∧ Moves A A' w w' := by
  by_cases hb : l.flushed < l.bytes.length ∧ l.flushed + 1 ≤ up
  · have hB : flB l up = true := decide_eq_true hb
    unfold flL flD
    rw [if_pos hB, if_pos hB]
    have hS' := hS
    obtain ⟨hP, ⟨L, D, hL, hD, g6, g7⟩, sb, g8, g9⟩ := hS
    have hD' : IsDisk w l.dp D d := by rw [g8]; exact hD
    have h1 := hd.calls
    refine (flush_out hL hD' g6 hl.half hb.1 hl.most hd.up hd.np (by omega) hl.at' up hb.2).mono ?_
    rintro e w' ⟨rfl, D', hL', hD2, k1, k2, k3⟩
    have hm' : Moves A (fun k => L k ∨ D' k) w w' := ⟨k3.mono fun k x => g7 k x, by
      rintro k (x | x)
      · exact .inl (g7 k (.inl x))
      · rcases k2 k x with z | z
        · exact .inl (g7 k (.inr z))
        · exact .inr z⟩
    refine ⟨rfl, fun k => L k ∨ D' k, ⟨hP.same (hS'.still hm') k3.size, ⟨L, D', hL', by rw [← g8]; exact hD2, k1, fun _ x => x⟩, fun k x => (hm'.off (hP.lt x) (sb k x)).2, g8, ?_⟩, hm'⟩
    rintro k (x | x)
    · exact hL'.lt x
    · exact hD2.lt x
  · have hB : ¬ flB l up = true := by unfold flB; simpa using hb
    unfold flL flD
    rw [if_neg hB, if_neg hB]
    have hS' := hS
    obtain ⟨L, hL, _⟩ := hS.log
    have h4 := hl.fl
    refine (flush_none hL hl.fl hl.most up (by omega)).mono ?_
    rintro e w' ⟨rfl, b⟩
    exact ⟨rfl, A, hS'.below b, Moves.of_kept (Kept.of_below b)⟩

end Go.Proofs.YtdhphbokkmofaaaGreat

namespace Go.Proofs.YtdhphbokkmofaaaGreat
open Go.RowKit Go.Sort

section
variable {w : World} {m tb p : Nat} {dn : Value} {D : DataW Value} {X : Int → Nat} {S : Int → Nat → Prop} {B : Nat → Prop} {M : MgG}

theorem MgAt.push (h : MgAt w m tb dn D X S B p M) (n : Nat) {wx w2 : World} {g cap : Nat} (bx : Below w.heap.size w wx) (own2 : w2.ownsRow 0 3 1 (.slice (some ⟨g, 0, none⟩) (M.done.length + 1) cap) (M.done.length + 1) (numsV M.done ++ [.int .i64 n])) (grow2 : wx.grownBy w2 dn.ownBlock) (loc2 : dn.ownBlock = some g ∨ g = wx.heap.size) (lt2 : g < w2.heap.size) :
    w2.cell? ⟨m, 3, none⟩ = some dn ∧ w2.frozen? ⟨m, 3, none⟩ = false ∧ ∃ B', IsMgr (w2.setCell ⟨m, 3, none⟩ (.slice (some ⟨g, 0, none⟩) (M.done.length + 1) cap)) m B' p X { M with done := M.done ++ [n] } ∧ Moves B B' w (w2.setCell ⟨m, 3, none⟩ (.slice (some ⟨g, 0, none⟩) (M.done.length + 1) cap)) := by
  have kg : Kept (fun k => dn.ownBlock = some k) wx w2 := Kept.of_grown grow2 (fun k e => e)
  have hkb : ∀ k, k < w.heap.size → dn.ownBlock ≠ some k → w2.heap[k]? = w.heap[k]? := fun k hk hs => (kg.block k (Nat.lt_of_lt_of_le hk bx.size) hs).trans (bx.block k hk)
  have hsz : w.heap.size ≤ w2.heap.size := Nat.le_trans bx.size kg.size
  have hml := h.lt m h.bm
  have hbm : w2.heap[m]? = w.heap[m]? := hkb m hml h.dm
  have e1 : Blk w2 m _ 128 := h.blk.same hbm
  have hgm : g ≠ m := by
    rcases loc2 with e | e
    · exact fun q => h.dm (q ▸ e)
    · have := bx.size; omega
  have hs3 : (w2.setCell ⟨m, 3, none⟩ (.slice (some ⟨g, 0, none⟩) (M.done.length + 1) cap)).heap.size = w2.heap.size := by simp [World.setCell]
  have ho3 : ∀ i, i ≠ m → (w2.setCell ⟨m, 3, none⟩ (.slice (some ⟨g, 0, none⟩) (M.done.length + 1) cap)).heap[i]? = w2.heap[i]? := fun i hi => by simp [World.setCell, Array.getElem?_modify, Ne.symm hi]
  have hgold : ∀ k, B k → dn.ownBlock ≠ some k → k ≠ g := fun k hb hd q => by
    rcases loc2 with e | e
    · exact hd (q ▸ e)
    · have := h.lt k hb; have := bx.size; omega
  refine ⟨e1.cell 3, e1.frozen 3, fun k => B k ∨ k = g, ⟨tb, .slice (some ⟨g, 0, none⟩) (M.done.length + 1) cap, D, S, ?_⟩, ?_, ?_⟩
  · refine ⟨e1.set 3 _, h.map.same ((ho3 tb h.mt).trans (hkb tb (h.lt tb h.bt) h.dt)), h.no, fun n' t e => ?_, h.keys, ?_, h.apart, fun n' hn k hk => ?_, ?_, .inl h.bm, .inl h.bt, fun g' e => ?_, fun n' hn k hk => .inl (h.bs n' hn k hk), ?_⟩
    · obtain ⟨a1, a2, a3, a4⟩ := h.yes n' t e
      have hn : M.T n' ≠ none := by rw [e]; exact Option.some_ne_none t
      refine ⟨a1, a2, a3.same (fun i hi => ?_) (by rw [hs3]; exact hsz), a4⟩
      have := h.off n' hn i hi
      exact (ho3 i this.1).trans (hkb i (a3.lt i hi) this.2.2)
    · show World.ownsRow _ 0 3 1 _ (M.done ++ [n]).length (numsV (M.done ++ [n]))
      rw [List.length_append, List.length_singleton]
      have e : numsV (M.done ++ [n]) = numsV M.done ++ [.int .i64 n] := by simp [numsV]
      rw [e]
      refine ownsRow_same (w := w2) own2 fun g' hg' => ?_
      simp only [Value.ownBlock, Option.some.injEq] at hg'
      subst hg'
      exact ho3 _ hgm
    · have := h.off n' hn k hk
      refine ⟨this.1, this.2.1, fun e => ?_⟩
      simp only [Value.ownBlock, Option.some.injEq] at e
      exact hgold k (h.bs n' hn k hk) this.2.2 e.symm
    · intro e
      simp only [Value.ownBlock, Option.some.injEq] at e
      exact hgm e
    · simp only [Value.ownBlock, Option.some.injEq] at e
      exact .inr e.symm
    · rintro k (x | x)
      · rw [hs3]; exact Nat.lt_of_lt_of_le (h.lt k x) hsz
      · rw [hs3, x]; exact lt2
  · have k1 : Kept B w wx := Kept.of_below bx
    have k2 : Kept B w w2 := ⟨kg.os.trans k1.os, kg.tape.trans k1.tape, kg.output.trans k1.output, hsz, fun i hi hs => hkb i hi fun e => hs (h.bd i e)⟩
    exact k2.trans (Kept.setCell B w2 m 3 _ h.bm)
  · rintro k (x | x)
    · exact .inl x
    · rw [x]
      rcases loc2 with e | e
      · exact .inl (h.bd g e)
      · right; have := bx.size; omega

end

section
variable {w : World} {m p : Nat} {X : Int → Nat} {A : Nat → Prop} {P : PG} {l : LG} {d : DG} {M : MgG}

theorem mflush_any (h : MSys w m p X A P l d M) {N : Nat} (hd : DOk d N) (hN : N ≤ 90000) (hl : LOk l d) (up : Nat) :
    Calls Tryz.prog 134 #[.pointer (some ⟨P.lp, 0, none⟩), .int .u64 up] w fun e w' => e = .returned (.int .i64 0) ∧ ∃ A', MSys w' m p X A' P (flL l up) (flD l d up) M ∧ Moves A A' w w' := by
  obtain ⟨A1, hS, hA1, step⟩ := h.sys
  obtain ⟨S, B, hD, hSB⟩ := hS.dev
  refine (sys_flush hD hd hN hl up).mono ?_
  rintro e w' ⟨rfl, B', hD', mv⟩
  have mv' : Moves A1 (fun k => S k ∨ B' k) w w' := ⟨mv.1.mono fun k x => hSB k (.inr x), by
    rintro k (x | x)
    · exact .inl (hSB k (.inl x))
    · rcases mv.2 k x with y | y
      · exact .inl (hSB k (.inr y))
      · exact .inr y⟩
  exact ⟨rfl, step _ _ _ _ _ hD'.sys mv'⟩

end

end Go.Proofs.YtdhphbokkmofaaaGreat

namespace Go.Proofs.YtdhphbokkmofaaaGreat
open Go.RowKit Go.Sort

def cmL (l : LG) (t : MtV) : LG := spendL l t (markS 4 t) 25
def cmT (l : LG) (t : MtV) : MtV := { spendT l t (markS 4 t) 25 with state := 2 }
def cmF (l : LG) (t : MtV) : LG := flL (cmL l t) (l.bytes.length + 1)
def cmD (l : LG) (d : DG) (t : MtV) : DG := flD (cmL l t) d (l.bytes.length + 1)

def MgG.pushed (M : MgG) (n : Nat) : MgG := { M with done := M.done ++ [n] }

theorem MgG.set_pushed (M : MgG) (n : Nat) (k : Int) (t : MtV) : (M.set k t).pushed n = (M.pushed n).set k t := rfl

section
variable {w : World} {m p : Nat} {X : Int → Nat} {A : Nat → Prop} {P : PG} {l : LG} {d : DG} {M : MgG}

set_option maxHeartbeats 6400000 in
set_option maxRecDepth 20000 in
theorem commit_ok (h : MSys w m p X A P l d M) (n : Nat) (hn : n ≤ 2147483647) {t : MtV} (ht : M.T n = some t) (hst : t.state = 1) (htx : t.tx = n) (hla : t.last < 18446744073709551616) (hk : t.kept ≤ 10000000) (hk5 : 50 ≤ t.kept) (hb : 50 + l.bytes.length ≤ 4194304) (hs : l.starts.length ≤ 9000000) (hl : l.kept ≤ 4194304) (hdl : M.done.length ≤ 1000000) {N : Nat} (hd : DOk d N) (hN : N ≤ 90000) (hlo : LOk (cmL l t) d)
    (he : 25 + (cmF l t).bytes.length ≤ 4194304 ∧ (cmF l t).starts.length ≤ 10000000 ∧ (cmF l t).kept ≤ 4194304 ∧ 25 ≤ (cmT l t).kept ∧ (cmT l t).kept ≤ 10000000) :
    Calls Tryz.prog 76 #[.pointer (some ⟨m, 0, none⟩), .int .i64 n] w fun e w' => e = .returned (.int .i64 0) ∧ ∃ A', MSys w' m p X A' P (endL (cmF l t) (cmT l t)) (cmD l d t) ((M.pushed n).gone n) ∧ Moves A A' w w' := by
  have HFI := hidx (find_yes h n (by omega) (by omega) ht)
  have HMK := hidx (mark_any h ht 4 (by omega) 25 (by omega) hla (by omega) hk (by omega) (by omega) (by omega) (.inl (by omega)))
  obtain ⟨S, hT, hSA, _⟩ := h.tx ht
  have c1 : w.cell? ⟨X n, 1, none⟩ = some (.int .i64 1) := by have := hT.cells.c1; rw [hst] at this; exact this
  have HFL : Hid (∀ wx A1, MSys wx m p X A1 P (cmL l t) d (M.set n (spendT l t (markS 4 t) 25)) → Calls Tryz.prog 134 #[.pointer (some ⟨P.lp, 0, none⟩), .int .u64 ((l.bytes.length + 1 : Nat) : Int)] wx fun e w' => e = .returned (.int .i64 0) ∧ ∃ A', MSys w' m p X A' P (cmF l t) (cmD l d t) (M.set n (spendT l t (markS 4 t) 25)) ∧ Moves A1 A' wx w') := fun wx A1 hx => mflush_any hx hd hN hlo (l.bytes.length + 1)
  have HEN : Hid (∀ wx A1, MSys wx m p X A1 P (cmF l t) (cmD l d t) ((M.pushed n).set n (cmT l t)) → Calls Tryz.prog 42 #[.pointer (some ⟨m, 0, none⟩), .pointer (some ⟨X n, 0, none⟩)] wx fun r w' => r = .returned (.int .i64 0) ∧ ∃ A', MSys w' m p X A' P (endL (cmF l t) (cmT l t)) (cmD l d t) ((M.pushed n).gone n) ∧ Moves A1 A' wx w') := fun wx A1 hx => by
    have := mend_any hx (n := n) (by omega) (by omega) (MgG.set_get _ _ _) (by show t.tx ≤ _; omega) (by show l.bytes.length + 1 < _; omega) he.2.2.2.2 he.1 he.2.1 (by have := he.2.2.1; have := he.2.2.2.1; omega) (.inl he.2.2.2.1)
    rw [MgG.set_gone] at this
    exact this
  have Htc : Hid (({ spendT l t (markS 4 t) 25 with state := 2 } : MtV) = cmT l t) := rfl
  obtain ⟨tc, Hc⟩ : ∃ q, Hid (cmT l t = q) := ⟨_, rfl⟩
  rw [Hc.out] at HEN Htc ⊢
  obtain ⟨t1, Ht1⟩ : ∃ q, Hid (spendT l t (markS 4 t) 25 = q) := ⟨_, rfl⟩
  rw [Ht1.out] at HMK HFL Htc
  have HLC : Hid (spendL l t (markS 4 t) 25 = cmL l t) := rfl
  rw [HLC.out] at HMK
  obtain ⟨i0, hi, hz0, hz1, hz2⟩ := info_parts infoInt
  have H1C : Hid (∀ u ∈ [Value.int .i64 (n : Int)], u.oneCell' = true) := by intro u hu; simp at hu; subst hu; rfl
  have hdl' := hdl
  clear h ht hT hSA hst htx hla hk hk5 hb hs hl hd hlo he Ht1 HLC hdl Hc
  go_enter Tryz.func76, Tryz.ntmps76
  go_wp2_with fail
  refine HFI.out.mono ?_
  rintro e w1 ⟨rfl, rfl⟩
  clear HFI
  go_wp2_with fail
  refine HMK.out.mono ?_
  rintro e w2 ⟨rfl, A2, g2, mv2⟩
  have HLG := hidx (mlog_any g2)
  have HF2 := hidx (HFL.out _ _ g2)
  have MV2 := hidx mv2
  clear HMK HFL g2 mv2 c1
  go_wp2_with fail
  refine HLG.out.mono ?_
  rintro e w3 ⟨rfl, rfl⟩
  clear HLG
  go_wp2_with fail
  refine HF2.out.mono ?_
  rintro e w4 ⟨rfl, A4, g4, mv4⟩
  have MV4 := hidx (MV2.out.trans mv4)
  obtain ⟨S4, hT4, _, step4⟩ := g4.tx (MgG.set_get M n t1)
  have d1 := hT4.cells.c1
  have f1 := hT4.cells.fr 1
  obtain ⟨q1, q2⟩ := hT4.put (t' := { t1 with state := 2 }) 1 (.int .i64 2) rfl (fun dv => rfl)
  obtain ⟨A5, g5, mv5⟩ := step4 _ _ _ q1 rfl q2
  rw [MgG.set_set, Htc.out] at g5
  obtain ⟨W5, HW5⟩ : ∃ W', Hid (W' = w4.setCell ⟨X n, 1, none⟩ (.int .i64 2)) := ⟨_, rfl⟩
  rw [← HW5.out] at g5 mv5
  have MV5 := hidx (MV4.out.trans mv5)
  obtain ⟨B, ⟨tb, dn, Dm, Sx, hM⟩, hBA, mstep⟩ := g5.mgr
  have c3 : W5.cell? ⟨m, 3, none⟩ = some dn := hM.blk.cell 3
  have hmm : m < W5.heap.size := hM.lt m hM.bm
  have HOW : Hid (∀ wx, Below W5.heap.size W5 wx → wx.ownsRow 0 3 1 dn (M.set n tc).done.length (numsV (M.set n tc).done)) := fun wx bx => ownsRow_same hM.done fun g hg => bx.block g (hM.lt g (hM.bd g hg))
  have HPU : Hid (∀ wx w2 g cap, Below W5.heap.size W5 wx → w2.ownsRow 0 3 1 (.slice (some ⟨g, 0, none⟩) (M.done.length + 1) cap) (M.done.length + 1) (numsV M.done ++ [.int .i64 (n : Int)]) → wx.grownBy w2 dn.ownBlock → (dn.ownBlock = some g ∨ g = wx.heap.size) → g < w2.heap.size →
      w2.cell? ⟨m, 3, none⟩ = some dn ∧ w2.frozen? ⟨m, 3, none⟩ = false ∧ Hid (∃ A', MSys (w2.setCell ⟨m, 3, none⟩ (.slice (some ⟨g, 0, none⟩) (M.done.length + 1) cap)) m p X A' P (cmF l t) (cmD l d t) ((M.pushed n).set n tc) ∧ Moves A A' w (w2.setCell ⟨m, 3, none⟩ (.slice (some ⟨g, 0, none⟩) (M.done.length + 1) cap)))) := by
    intro wx w2 g cap bx own2 grow2 loc2 lt2
    obtain ⟨a1, a2, B', hM', mvB⟩ := hM.push n bx own2 grow2 loc2 lt2
    obtain ⟨A', g', mv'⟩ := mstep _ _ _ _ hM' mvB
    exact ⟨a1, a2, hidx ⟨A', g', MV5.out.trans mv'⟩⟩
  have b6 : Below W5.heap.size W5 (W5.alloc (.cells #[.int .i64 (n : Int)] 3)) := (Below.refl _ _).alloc (Nat.le_refl _) _
  have HB6 := hidx b6
  have HO6 := hidx (HOW.out _ b6)
  have cc : (W5.alloc (.cells #[.int .i64 (n : Int)] 3)).cell? ⟨m, 3, none⟩ = some dn := (World.cell?_of_block (w := W5) (a := ⟨m, 3, none⟩) (heap_old _ _ hmm)).trans c3
  have hnews : Hid (∀ j u, [Value.int .i64 (n : Int)][j]? = some u → (W5.alloc (.cells #[.int .i64 (n : Int)] 3)).cell? ((⟨W5.heap.size, 0, none⟩ : Addr).add j) = some u) := World.news_of_block (heap_alloc_new _ _)
  clear b6 HOW
  clear HF2 MV2 MV4 mv4 g4 hT4 step4 q1 q2 g5 mv5 hM hBA mstep MV5
  go_upto_region 13 with fail
  rw [← HW5.out]
  clear HW5 d1 f1
  go_wp2_with (at_builtin; refine wpList_append_lies _ rfl _ _ 126 rfl 0 3 i0 _ 1 8 Tryz.underlying126 hi hz0 hz1 hz2 rfl (by decide) dn M.done.length (numsV M.done) rfl HO6.out ⟨W5.heap.size, 0, none⟩ 1 1 [.int .i64 (n : Int)] rfl rfl hnews.out H1C.out (by decide) (by unfold maxLen; omega) (by omega) (Nat.zero_le _) _ rfl ?_; intro g2 cap2 w2 own2 grow2 loc2 lt2; obtain ⟨c32, f32, HG⟩ := HPU.out _ w2 g2 cap2 HB6.out own2 grow2 loc2 lt2; clear own2 grow2 loc2 lt2)
  all_goals
    obtain ⟨A6, g6, mv6⟩ := HG.out
    have HE6 := hidx (HEN.out _ _ g6)
    have MV6 := hidx mv6
    clear g6 mv6 HG
    refine HE6.out.mono ?_
    rintro e w9 ⟨rfl, A9, g9, mv9⟩
    have HF9 := hidx (⟨A9, g9, MV6.out.trans mv9⟩ : ∃ A', MSys w9 m p X A' P (endL (cmF l t) tc) (cmD l d t) ((M.pushed n).gone n) ∧ Moves A A' w w9)
    clear g9 mv9 HE6 MV6
    go_wp2
    go_ret
    exact ⟨rfl, HF9.out⟩

end

end Go.Proofs.YtdhphbokkmofaaaGreat
