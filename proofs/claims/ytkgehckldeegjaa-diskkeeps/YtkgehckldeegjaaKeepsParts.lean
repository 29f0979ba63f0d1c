/-
  What the walk of girderlaw02.DiskKeeps leans on: a map of bytes by numbers, and what Sync leaves.
-/
import Derived.Test.YtkgehckldeegjaaDiskAwake
namespace Go.Proofs.Ytkgehckldeegjaa
open Go.RowKit
set_option linter.unusedVariables false

def keyI (p : Nat) : Lit := .int .i64 p

theorem intKeyed : Maps.Keyed Try.prog 3 := Maps.int_keyed (q := .i64) Try.underlying3

theorem keyI_key {p : Nat} (hp : p < 4294967296) : keyOf Try.prog 3 (.int .i64 p) = some (keyI p) := by
  refine Maps.keyOf_int_mk Try.underlying3 ?_
  have h1 : IntKind.i64.min = -9223372036854775808 := by decide
  have h2 : IntKind.i64.max = 9223372036854775807 := by decide
  simp only [Lit.wf, h1, h2, Bool.and_eq_true, decide_eq_true_eq]
  omega

theorem keyI_lit (p : Nat) : WideAt.IsKeyLit (keyI p) := by simp [keyI, WideAt.IsKeyLit]

theorem keyI_ne {p q : Nat} (h : p ≠ q) : keyI p ≠ keyI q := by
  intro e
  simp only [keyI, Lit.int.injEq, true_and] at e
  omega

theorem byte_wf (b : UInt8) : (Lit.int .u8 (b.toNat : Int)).wf = true := by
  have h1 : IntKind.u8.min = 0 := by decide
  have h2 : IntKind.u8.max = 255 := by decide
  have h3 := b.toNat_lt
  simp only [Lit.wf, h1, h2, Bool.and_eq_true, decide_eq_true_eq]
  omega

/-- Block b is a map of at most n bytes: that of p is f p. -/
def IsLast (w : World) (b n : Nat) (f : Nat → Option UInt8) : Prop :=
  ∃ D : DataW Unit, w.ownsMap Try.prog 3 (plainElem Try.prog 5) b n D ∧
    ∀ p, p < 4294967296 → Maps.has D (keyI p) = (f p).isSome ∧ D.atKey (keyI p) (.lit (.int .u8 0)) = .lit (.int .u8 (((f p).getD 0).toNat : Int))

theorem IsLast.lt {w : World} {b n : Nat} {f : Nat → Option UInt8} (h : IsLast w b n f) : b < w.heap.size := by
  obtain ⟨D, hD, _⟩ := h
  exact hD.lt

theorem IsLast.same {w w' : World} {b n : Nat} {f : Nat → Option UInt8} (h : IsLast w b n f) (e : w'.heap[b]? = w.heap[b]?) : IsLast w' b n f := by
  obtain ⟨D, ⟨es, c, hb, k⟩, h2⟩ := h
  exact ⟨D, ⟨es, c, e.trans hb, k⟩, h2⟩

theorem IsLast.made (w : World) : IsLast (w.alloc (.map #[] 0)) w.heap.size 0 (fun _ => none) :=
  ⟨.map [], World.ownsMap_made _ _ _ _, fun p hp => ⟨rfl, rfl⟩⟩

theorem zeroByte (w : World) : (zeroValue 5).run Try.prog w = .ok (.int .u8 0) w := Try.zeroValue5 w

theorem IsLast.look {w : World} {b n : Nat} {f : Nat → Option UInt8} (h : IsLast w b n f) {p : Nat} (hp : p < 4294967296) :
    (Instr.lookup 43 (.map (some b)) (.int .i64 p) true).run Try.prog w = .ok (.tuple #[.int .u8 (((f p).getD 0).toNat : Int), .bool (f p).isSome]) w := by
  obtain ⟨D, hD, h2⟩ := h
  obtain ⟨v, ps, hr, hv⟩ := hD.look_ok intKeyed Try.underlying43 (zeroByte w) (zd := .lit (.int .u8 0)) (zp := []) (plainElem_int Try.underlying5 (by decide)) (keyI_key hp)
  obtain ⟨s, rfl, hz, _⟩ := plainElem_int_inv Try.underlying5 hv
  rw [(h2 p hp).2] at hz
  simp only [Prod.mk.injEq, DataW.lit.injEq, Lit.int.injEq, true_and] at hz
  rw [hr, (h2 p hp).1, ← hz.1]

def setL (f : Nat → Option UInt8) (p : Nat) (s : UInt8) : Nat → Option UInt8 := fun q => if q = p then some s else f q

theorem IsLast.put {w : World} {b n : Nat} {f : Nat → Option UInt8} (h : IsLast w b n f) (hn : n ≤ 1000000000) {p : Nat} (hp : p < 4294967296) (s : UInt8) :
    ∃ w', (Instr.mapUpdate 43 (.map (some b)) (.int .i64 p) (.int .u8 (s.toNat : Int))).run Try.prog w = .ok () w' ∧ IsLast w' b (n + 1) (setL f p s) ∧ w.mapTurned w' b := by
  obtain ⟨D, hD, h2⟩ := h
  obtain ⟨w', hr, hD', ht⟩ := hD.store intKeyed Try.underlying43 (by unfold maxLen; omega) (keyI_key hp) (plainElem_int Try.underlying5 (byte_wf s))
  refine ⟨w', hr, ⟨_, hD', fun q hq => ?_⟩, ht⟩
  by_cases c : q = p
  · subst c
    simp only [setL, if_pos]
    exact ⟨Maps.has_put_same hD.isMap (keyI_lit q) _, Maps.atKey_put_same hD.isMap (keyI_lit q) _ _⟩
  · simp only [setL, if_neg c]
    rw [Maps.has_put_other (keyI_ne c), Maps.atKey_put_other (keyI_ne c)]
    exact h2 q hq

/-! What Sync leaves. -/

theorem keepTo_app {l : List LW} {x : LW} {u : (Nat → ByteArray) × Nat} : ∀ {n : Nat}, n ≤ l.length → keepTo (l ++ [x]) u n = keepTo l u n
  | 0, _ => rfl
  | n + 1, h => by
    have e : (l ++ [x])[n]? = l[n]? := List.getElem?_append_left (by omega)
    simp only [keepTo, e]
    rw [keepTo_app (n := n) (by omega)]

/-- All writes made sure are what is read. -/
def Syn (d : DG) : Prop := ∀ q, 1 ≤ q → (keepTo d.loose (d.sure, d.sm) d.loose.length).1 q = (d.fresh q).getD (d.sure q)

theorem Syn.new (room : Nat) : Syn (newD room) := fun q _ => rfl

theorem Syn.wr {d : DG} (h : Syn d) {q0 : Nat} (hq0 : q0 ≠ 0) (s : ByteArray) : Syn (wrD d q0 s) := by
  intro q hq
  show (keepTo (d.loose ++ [(⟨q0, s, 0⟩ : LW)]) (d.sure, d.sm) (d.loose ++ [(⟨q0, s, 0⟩ : LW)]).length).1 q = (setF d.fresh q0 s q).getD (d.sure q)
  have e : (d.loose ++ [(⟨q0, s, 0⟩ : LW)]).length = d.loose.length + 1 := by simp
  rw [e, keepTo_succ (x := ⟨q0, s, 0⟩) (by simp), keepTo_app (Nat.le_refl _)]
  unfold keepF setF
  simp only [if_neg hq0]
  by_cases c : q = q0
  · rw [if_pos c, if_pos c]; rfl
  · rw [if_neg c, if_neg c]; exact h q hq

theorem page_n {k : Nat} (hk : k < 256) (w : World) : Calls Try.prog 13 #[.int .u8 (k : Int)] w fun e w' => e = .returned (.string (pageS (UInt8.ofNat k))) ∧ Below w.heap.size w w' := by
  have h := page_any (UInt8.ofNat k) w
  have e : ((UInt8.ofNat k).toNat : Int) = (k : Int) := by rw [UInt8.toNat_ofNat']; omega
  rw [e] at h
  exact h

theorem below_moves2 {w wr w' : World} {S S' : Nat → Prop} (h : Below w.heap.size w wr) (ho : ∀ i, S i → w.heap.size ≤ i) (m : Moves S S' wr w') : Below w.heap.size w w' ∧ ∀ i, S' i → w.heap.size ≤ i := by
  refine ⟨⟨m.1.os.trans h.os, m.1.tape.trans h.tape, m.1.output.trans h.output, Nat.le_trans h.size m.1.size, fun i hi => (m.1.block i (Nat.lt_of_lt_of_le hi h.size) fun x => by have := ho i x; omega).trans (h.block i hi)⟩, fun i hi => ?_⟩
  rcases m.2 i hi with x | x
  · exact ho i x
  · exact Nat.le_trans h.size x

/-- What the walk knows while pages are written. -/
structure Kp (w wr : World) (p LB : Nat) (S : Nat → Prop) (d : DG) (lf : Nat → Option UInt8) (k n : Nat) : Prop where
  disk : IsDisk wr p S d
  old : ∀ i, S i → w.heap.size ≤ i
  off : ¬ S LB
  last : IsLast wr LB n lf
  new : w.heap.size ≤ LB
  bel : Below w.heap.size w wr
  calm : Calm d k
  syn : Syn d
  zero : d.sure = fun _ => zerosS
  rel : ∀ q, d.fresh q = (lf q).map pageS
  room : d.room = 64
  log : d.log = []
  sl : d.sl = 0

theorem Kp.below {w wr w' : World} {p LB : Nat} {S : Nat → Prop} {d : DG} {lf : Nat → Option UInt8} {k n : Nat} (h : Kp w wr p LB S d lf k n) (b : Below wr.heap.size wr w') : Kp w w' p LB S d lf k n :=
  ⟨h.disk.below b, h.old, h.off, h.last.same (b.block _ h.last.lt), h.new, h.bel.trans (b.mono h.bel.size), h.calm, h.syn, h.zero, h.rel, h.room, h.log, h.sl⟩

/-- A page is written, and noted. -/
theorem Kp.write {w wr w4 w5 : World} {p LB : Nat} {S S' : Nat → Prop} {d : DG} {lf : Nat → Option UInt8} {k n q : Nat} {b : UInt8} (h : Kp w wr p LB S d lf k n) (hk : k < 1000000) (hq : q < 4294967296) (hq0 : q ≠ 0) (hd : IsDisk w4 p S' (wrD d q (pageS b))) (m : Moves S S' wr w4)
    (hl : IsLast w5 LB (n + 1) (setL lf q b)) (ht : w4.mapTurned w5 LB) : Kp w w5 p LB S' (wrD d q (pageS b)) (setL lf q b) (k + 1) (n + 1) := by
  have hlt := h.last.lt
  obtain ⟨e1, e2⟩ := m.off hlt h.off
  obtain ⟨b4, o4⟩ := below_moves2 h.bel h.old m
  have hg := ht.grown
  have hb5 : Below w.heap.size w w5 := ⟨hg.os.trans b4.os, hg.tape.trans b4.tape, hg.output.trans b4.output, Nat.le_trans b4.size hg.size, fun i hi => (hg.block i (Nat.lt_of_lt_of_le hi b4.size) (fun e => by have := Option.some.inj e; have := h.new; omega)).trans (b4.block i hi)⟩
  refine ⟨hd.same (fun i hi => hg.block i (by obtain ⟨mm, _, _, h2⟩ := hd; exact h2 i hi) (fun e => e2 (Option.some.inj e ▸ hi))) hg.size, o4, e2, hl, h.new, hb5, h.calm.wr hk hq (pageS_size b), h.syn.wr hq0 _, h.zero, ?_, h.room, h.log, h.sl⟩
  intro q'
  show setF d.fresh q (pageS b) q' = (setL lf q b q').map pageS
  unfold setF setL
  by_cases c : q' = q
  · rw [if_pos c, if_pos c]; rfl
  · rw [if_neg c, if_neg c]; exact h.rel q'

theorem Kp.start {w w2 : World} {p : Nat} {S1 : Nat → Prop} (h : IsDisk w2 p S1 (newD 64) ∧ Below w.heap.size w w2 ∧ ∀ i, S1 i → w.heap.size ≤ i) : Kp w (w2.alloc (.map #[] 0)) p w2.heap.size S1 (newD 64) (fun _ => none) 0 0 := by
  obtain ⟨hd, hb, hS⟩ := h
  have hB : Below w2.heap.size w2 (w2.alloc (.map #[] 0)) := (Below.refl _ _).alloc (Nat.le_refl _) _
  refine ⟨hd.below hB, hS, ?_, IsLast.made w2, hb.size, hb.trans (hB.mono hb.size), Calm.new, Syn.new 64, rfl, fun _ => rfl, rfl, rfl, rfl⟩
  intro x
  obtain ⟨m, _, _, h2⟩ := hd
  have := h2 _ x
  omega

/-- The disk and the map of the law beside it. -/
structure Fr (w wr : World) (p LB : Nat) (S : Nat → Prop) (d : DG) (lf : Nat → Option UInt8) (n : Nat) : Prop where
  disk : IsDisk wr p S d
  old : ∀ i, S i → w.heap.size ≤ i
  off : ¬ S LB
  last : IsLast wr LB n lf
  bel : Below w.heap.size w wr

theorem Kp.fr {w wr : World} {p LB : Nat} {S : Nat → Prop} {d : DG} {lf : Nat → Option UInt8} {k n : Nat} (h : Kp w wr p LB S d lf k n) : Fr w wr p LB S d lf n := ⟨h.disk, h.old, h.off, h.last, h.bel⟩

theorem Fr.moved {w wr w' : World} {p LB : Nat} {S S' : Nat → Prop} {d d' : DG} {lf : Nat → Option UInt8} {n : Nat} (h : Fr w wr p LB S d lf n) (hd : IsDisk w' p S' d') (m : Moves S S' wr w') : Fr w w' p LB S' d' lf n :=
  ⟨hd, (below_moves2 h.bel h.old m).2, (m.off h.last.lt h.off).2, h.last.same (m.off h.last.lt h.off).1, (below_moves2 h.bel h.old m).1⟩

theorem Fr.below {w wr w' : World} {p LB : Nat} {S : Nat → Prop} {d : DG} {lf : Nat → Option UInt8} {n : Nat} (h : Fr w wr p LB S d lf n) (b : Below wr.heap.size wr w') : Fr w w' p LB S d lf n :=
  ⟨h.disk.below b, h.old, h.off, h.last.same (b.block _ h.last.lt), h.bel.trans (b.mono h.bel.size)⟩

theorem Fr.hid {w wr w' : World} {p LB : Nat} {S S' : Nat → Prop} {d d' : DG} {lf : Nat → Option UInt8} {n : Nat} (h : Hid (Fr w wr p LB S d lf n)) (hd : IsDisk w' p S' d') (m : Moves S S' wr w') : Hid (Fr w w' p LB S' d' lf n) := h.out.moved hd m
theorem Fr.hidb {w wr w' : World} {p LB : Nat} {S : Nat → Prop} {d : DG} {lf : Nat → Option UInt8} {n : Nat} (h : Hid (Fr w wr p LB S d lf n)) (b : Below wr.heap.size wr w') : Hid (Fr w w' p LB S d lf n) := h.out.below b

def moreS : ByteArray := ⟨#[109, 111, 114, 101]⟩

def lgD (d : DG) (L : ByteArray) : DG := { putD d L with calls := (putD d L).calls + 1, sl := (putD d L).log.length }

theorem Calm.put' {d : DG} {n : Nat} (h : Calm d n) (hn : n < 1000000) {s : ByteArray} (hs : d.log.length + s.size ≤ 4194304) : Calm (putD d s) (n + 1) := by
  have h1 := h.long
  have h2 := h.calls
  have h3 := h.nF
  have h4 := h.ok.sl
  refine ⟨h.dead, h.plan, by show d.calls + 1 ≤ _; omega, ⟨h.ok.loose, h.ok.sure, h.ok.n, ?_, ?_⟩, by show d.nS + d.loose.length ≤ _; omega, by show d.nF ≤ _; omega⟩
  · show (d.log ++ s.data.toList).length ≤ _
    simp; omega
  · show d.sl ≤ (d.log ++ s.data.toList).length
    simp; omega

theorem Calm.lg {d : DG} {n : Nat} (h : Calm d n) (hn : n < 1000) {s : ByteArray} (hs : d.log.length + s.size ≤ 4194304) : Calm (lgD d s) (n + 2) := by
  have h := h.put' (by omega) hs
  have h1 := h.long
  have h2 := h.calls
  have h3 := h.nF
  exact ⟨h.dead, h.plan, by show (putD d s).calls + 1 ≤ _; omega, ⟨h.ok.loose, h.ok.sure, h.ok.n, h.ok.log, Nat.le_refl _⟩, by show (putD d s).nS + (putD d s).loose.length ≤ _; omega, by show (putD d s).nF ≤ _; omega⟩

/-- What is read at the end. -/
theorem keeps_end {w wr : World} {p LB : Nat} {S : Nat → Prop} {d : DG} {lf : Nat → Option UInt8} {k n : Nat} (h : Kp w wr p LB S d lf k n) (hk : k ≤ 100) (L : ByteArray) (hL : L.size ≤ 100000) (f : FG) :
    ∃ T : ByteArray, Hid ((⟨(upD f (putD (syncD (lgD d L)) moreS)).log.toArray⟩ : ByteArray) = T) ∧ L.size ≤ T.size ∧ T.size ≤ L.size + 4 ∧ (L ++ moreS).extract 0 T.size = T ∧
      Hid (Calm (upD f (putD (syncD (lgD d L)) moreS)) 1000) ∧ Hid (Calm (putD (syncD (lgD d L)) moreS) 1000) ∧ Hid (Calm (syncD (lgD d L)) 1000 ∧ (syncD (lgD d L)).log.length = L.size) ∧ Hid (Calm (lgD d L) 1000) ∧ Hid (Calm (putD d L) 1000 ∧ (putD d L).log.length = L.size) ∧
      Hid (∀ q, 1 ≤ q → readD (upD f (putD (syncD (lgD d L)) moreS)) q = ((lf q).map pageS).getD zerosS) := by
  have hl : (putD d L).log = L.data.toList := by show d.log ++ _ = _; rw [h.log, List.nil_append]
  have hll : (putD d L).log.length = L.size := by rw [hl]; simp
  have c1 : Calm (putD d L) (k + 1) := h.calm.put' (by omega) (by rw [h.log]; simp; omega)
  have c2 : Calm (lgD d L) (k + 2) := h.calm.lg (by omega) (by rw [h.log]; simp; omega)
  have c3 : Calm (syncD (lgD d L)) (k + 3) := c2.sync (by omega)
  have hl3 : (syncD (lgD d L)).log.length = L.size := hll
  have hm : moreS.size = 4 := rfl
  have c4 : Calm (putD (syncD (lgD d L)) moreS) (k + 4) := c3.put' (by omega) (by rw [hl3, hm]; omega)
  have c5 : Calm (upD f (putD (syncD (lgD d L)) moreS)) (k + 4) := c4.up f
  have hlog4 : (putD (syncD (lgD d L)) moreS).log = L.data.toList ++ moreS.data.toList := by show (putD d L).log ++ _ = _; rw [hl]
  have hlen4 : (putD (syncD (lgD d L)) moreS).log.length = L.size + 4 := by rw [hlog4]; simp [hm]
  have hsl4 : (putD (syncD (lgD d L)) moreS).sl = L.size := hll
  have hN : L.size ≤ logN (putD (syncD (lgD d L)) moreS) f.log ∧ logN (putD (syncD (lgD d L)) moreS) f.log ≤ L.size + 4 := by
    unfold logN; rw [hlen4, hsl4]; omega
  generalize hNg : logN (putD (syncD (lgD d L)) moreS) f.log = N at hN
  have hlog5 : (upD f (putD (syncD (lgD d L)) moreS)).log = (L.data.toList ++ moreS.data.toList).take N := by
    show (putD (syncD (lgD d L)) moreS).log.take (logN (putD (syncD (lgD d L)) moreS) f.log) = _
    rw [hNg, hlog4]
  have hT : (⟨(upD f (putD (syncD (lgD d L)) moreS)).log.toArray⟩ : ByteArray) = (L ++ moreS).extract 0 N := by
    apply byteArray_ext
    show (upD f (putD (syncD (lgD d L)) moreS)).log = _
    rw [hlog5]
    simp [List.take_append]
  have hTs : ((L ++ moreS).extract 0 N).size = N := by rw [ByteArray.size_extract, ByteArray.size_append, hm]; omega
  have hread : ∀ q, 1 ≤ q → readD (upD f (putD (syncD (lgD d L)) moreS)) q = ((lf q).map pageS).getD zerosS := by
    intro q hq
    have e : readD (upD f (putD (syncD (lgD d L)) moreS)) q = (keepTo d.loose (d.sure, d.sm) d.loose.length).1 q := rfl
    rw [e, h.syn q hq, h.rel q, h.zero]
  exact ⟨(L ++ moreS).extract 0 N, hT, by omega, by omega, by rw [hTs], c5.mono (by omega), c4.mono (by omega), ⟨c3.mono (by omega), hl3⟩, c2.mono (by omega), ⟨c1.mono (by omega), hll⟩, hread⟩

end Go.Proofs.Ytkgehckldeegjaa
