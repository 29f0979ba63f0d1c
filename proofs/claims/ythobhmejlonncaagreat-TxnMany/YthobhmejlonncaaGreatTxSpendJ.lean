/-
  The walks of (*txn.Manager).cover and spend.
  The walks of (*txn.Manager).Coming and Begin.
-/
import Derived.Test.YthobhmejlonncaaGreatWalRoomJ
import Derived.StillTailTactics
namespace Go.Proofs.YthobhmejlonncaaGreat
open Go.RowKit Go.Sort
set_option linter.unusedVariables false
set_option linter.unusedSimpArgs false

theorem MgG.set_self {M : MgG} {n : Int} {t : MtV} (h : M.T n = some t) : M.set n t = M := by
  unfold MgG.set
  have : (fun k => if k = n then some t else M.T k) = M.T := by
    funext k
    by_cases e : k = n
    · rw [if_pos e, e, h]
    · rw [if_neg e]
  rw [this]

theorem MgG.set_get (M : MgG) (n : Int) (t : MtV) : (M.set n t).T n = some t := by simp [MgG.set]

theorem MgG.set_set (M : MgG) (n : Int) (t t' : MtV) : (M.set n t).set n t' = M.set n t' := by
  unfold MgG.set
  simp only [MgG.mk.injEq, and_true]
  funext k
  by_cases e : k = n <;> simp [e]

/-- One cell of a transaction is stored to. -/
theorem MtAt.put {S : Nat → Prop} {w : World} {b : Nat} {t t' : MtV} (h : MtAt S w b t) (i : Nat) (v : Value) (hd : t'.debts = t.debts) (hc : ∀ dv, (t.cells dv).setIfInBounds i v = t'.cells dv) : MtAt S (w.setCell ⟨b, i, none⟩ v) b t' ∧ Moves S S w (w.setCell ⟨b, i, none⟩ v) := by
  obtain ⟨⟨dv, h1, h2, h3⟩, h4, h5⟩ := h
  have hk := Kept.setCell S w b i v h4
  refine ⟨⟨⟨dv, ?_, ?_, h3⟩, h4, fun k x => Nat.lt_of_lt_of_le (h5 k x) hk.size⟩, Moves.of_kept hk⟩
  · rw [← hc dv]; exact h1.set i v
  · rw [hd]
    refine ownsRow_same h2 fun g hg => ?_
    have hne := (h3 g hg).2
    simp [World.setCell, Array.getElem?_modify, Ne.symm hne]

/-- What the walks read of a transaction's numbers. -/
structure MtCells (w : World) (b : Nat) (t : MtV) : Prop where
  c0 : w.cell? ⟨b, 0, none⟩ = some (.int .i64 t.tx)
  c1 : w.cell? ⟨b, 1, none⟩ = some (.int .i64 t.state)
  c2 : w.cell? ⟨b, 2, none⟩ = some (.int .u64 t.last)
  c3 : w.cell? ⟨b, 3, none⟩ = some (.int .u64 t.next)
  c4 : w.cell? ⟨b, 4, none⟩ = some (.bool t.begun)
  c5 : w.cell? ⟨b, 5, none⟩ = some (.int .i64 t.kept)
  fr : ∀ i, w.frozen? ⟨b, i, none⟩ = false

theorem MtAt.cells {S : Nat → Prop} {w : World} {b : Nat} {t : MtV} (h : MtAt S w b t) : MtCells w b t := by
  obtain ⟨⟨dv, h1, h2, h3⟩, h4, h5⟩ := h
  exact ⟨h1.cell 0, h1.cell 1, h1.cell 2, h1.cell 3, h1.cell 4, h1.cell 5, h1.frozen⟩

/-- What cover makes of the log and of the transaction. -/
def coverL (l : LG) (t : MtV) (room : Nat) : LG := { l with kept := l.kept + (room - t.kept) }
def coverT (t : MtV) (room : Nat) : MtV := { t with kept := t.kept + (room - t.kept) }

section
variable {w : World} {m p : Nat} {X : Int → Nat} {A : Nat → Prop} {P : PG} {l : LG} {d : DG} {M : MgG}

set_option maxHeartbeats 1600000 in
set_option maxRecDepth 20000 in
theorem cover_any (h : MSys w m p X A P l d M) {n : Int} {t : MtV} (ht : M.T n = some t) (room : Nat) (hr : room ≤ 1000000000) (hk : t.kept ≤ 1000000000) (hb : l.bytes.length ≤ 4194304) (hl : l.kept ≤ 4194304) (hm : room ≤ t.kept ∨ l.kept + (room - t.kept) + l.bytes.length ≤ 4194304) :
    Calls Tryz.prog 100 #[.pointer (some ⟨m, 0, none⟩), .pointer (some ⟨X n, 0, none⟩), .int .i64 room] w fun r w' => r = .returned (.int .i64 0) ∧ ∃ A', MSys w' m p X A' P (coverL l t room) d (M.set n (coverT t room)) ∧ Moves A A' w w' := by
  obtain ⟨S, hT, hSA, step⟩ := h.tx ht
  have c5 := hT.cells.c5
  by_cases hle : room ≤ t.kept
  · have e0 : room - t.kept = 0 := by omega
    have HF : Hid (MSys w m p X A P (coverL l t room) d (M.set n (coverT t room))) := by
      have e1 : coverL l t room = l := by unfold coverL; rw [e0]; rfl
      have e2 : coverT t room = t := by unfold coverT; rw [e0]; rfl
      rw [e1, e2, MgG.set_self ht]
      exact h
    have d1 : decide ((room : Int) - (t.kept : Int) ≤ 0) = true := by simp; omega
    have w1 : IntKind.i64.wrap ((room : Int) - (t.kept : Int)) = (room : Int) - (t.kept : Int) := by rw [IntKind.wrap_i64]; omega
    clear h hT step hSA hm e0
    go_enter Tryz.func100, Tryz.ntmps100
    go_wp2
    go_ret
    exact ⟨rfl, A, HF.out, Moves.refl _ _⟩
  · obtain ⟨k, hkk⟩ : ∃ k, room = t.kept + k := ⟨room - t.kept, by omega⟩
    have e0 : room - t.kept = k := by omega
    rw [e0] at hm
    obtain ⟨L, hL, hLA, lstep⟩ := h.log
    have HLG := hidx (mlog_any h)
    have HK := hidx (keep_ok hL hb hl k (by omega) (by omega))
    have HSt := hidx lstep
    have HH := hidx h
    have e3 : (room : Int) - (t.kept : Int) = (k : Int) := by omega
    have d1 : ¬ k = 0 := by omega
    have HE : Hid (coverL l t room = { l with kept := l.kept + k } ∧ coverT t room = { t with kept := t.kept + k }) := by
      unfold coverL coverT; rw [e0]; exact ⟨rfl, rfl⟩
    have HT := hidx ht
    have HM := hidx hm
    clear h hT step hSA hL hLA lstep hm ht hle hkk
    go_enter Tryz.func100, Tryz.ntmps100
    go_wp2_with fail
    refine HLG.out.mono ?_
    rintro r w1 ⟨rfl, rfl⟩
    go_wp2_with fail
    refine HK.out.mono ?_
    rintro r w1 ⟨rfl, hL1, hm1⟩
    obtain ⟨A1, h1, mv1⟩ := HSt.out w1 _ _ hL1 rfl hm1
    obtain ⟨S1, hT1, hSA1, step1⟩ := h1.tx HT.out
    have g5 := hT1.cells.c5
    have f5 := hT1.cells.fr 5
    obtain ⟨q1, q2⟩ := hT1.put (t' := { t with kept := t.kept + k }) 5 (.int .i64 ((t.kept : Int) + (k : Int))) rfl (fun dv => rfl)
    obtain ⟨A2, h2, mv2⟩ := step1 _ _ _ q1 rfl q2
    have HF := hidx (⟨A2, by rw [HE.out.1, HE.out.2]; exact h2, mv1.trans mv2⟩ : ∃ A', MSys (w1.setCell ⟨X n, 5, none⟩ (.int .i64 ((t.kept : Int) + (k : Int)))) m p X A' P (coverL l t room) d (M.set n (coverT t room)) ∧ Moves A A' w (w1.setCell ⟨X n, 5, none⟩ (.int .i64 ((t.kept : Int) + (k : Int)))))
    clear hL1 hm1 h1 hT1 step1 hSA1 q1 q2 h2 mv1 mv2 HE HH HSt HK HLG c5
    go_wp2
    go_ret
    exact ⟨rfl, HF.out⟩

/-- What spend makes of the log and of the transaction. -/
def spendL (l : LG) (t : MtV) (s : ByteArray) (left : Nat) : LG := { putG (coverL l t (s.size + 12 + left)) s with kept := (coverL l t (s.size + 12 + left)).kept - (s.size + 12) }
def spendT (l : LG) (t : MtV) (s : ByteArray) (left : Nat) : MtV := { t with kept := (coverT t (s.size + 12 + left)).kept - (s.size + 12), last := l.bytes.length + 1 }

set_option maxHeartbeats 1600000 in
set_option maxRecDepth 20000 in
theorem spend_any (h : MSys w m p X A P l d M) {n : Int} {t : MtV} (ht : M.T n = some t) (s : ByteArray) (left : Nat) (h1 : 1 ≤ s.size) (h2 : s.size ≤ 8192) (hr : left ≤ 10000000) (hk : t.kept ≤ 10000000) (hb : s.size + 12 + l.bytes.length ≤ 4194304) (hs : l.starts.length ≤ 10000000) (hl : l.kept + ((s.size + 12 + left) - t.kept) ≤ 4194304) (hm : s.size + 12 + left ≤ t.kept ∨ l.kept + ((s.size + 12 + left) - t.kept) + l.bytes.length ≤ 4194304) :
    Calls Tryz.prog 53 #[.pointer (some ⟨m, 0, none⟩), .pointer (some ⟨X n, 0, none⟩), .string s, .int .i64 left] w fun r w' => r = .returned (.tuple #[.int .u64 ((l.bytes.length + 1 : Nat) : Int), .int .i64 0]) ∧ ∃ A', MSys w' m p X A' P (spendL l t s left) d (M.set n (spendT l t s left)) ∧ Moves A A' w w' := by
  have HCV := hidx (cover_any h ht (s.size + 12 + left) (by omega) (by omega) (by omega) (by omega) hm)
  have HM0 := hidx (MgG.set_get M n (coverT t (s.size + 12 + left)))
  have Hle : Hid (s.size + 12 ≤ (coverT t (s.size + 12 + left)).kept ∧ (coverT t (s.size + 12 + left)).kept ≤ 20000000) := by
    unfold coverT; exact ⟨by show _ ≤ t.kept + _; omega, by show t.kept + _ ≤ _; omega⟩
  have HLb : Hid ((coverL l t (s.size + 12 + left)).bytes = l.bytes ∧ (coverL l t (s.size + 12 + left)).starts = l.starts ∧ (coverL l t (s.size + 12 + left)).kept ≤ 4194304 ∧ (coverL l t (s.size + 12 + left)).dp = l.dp) := ⟨rfl, rfl, hl, rfl⟩
  unfold spendL spendT
  obtain ⟨l1, Hl1⟩ : ∃ q, Hid (coverL l t (s.size + 12 + left) = q) := ⟨_, rfl⟩
  obtain ⟨t1, Ht1⟩ : ∃ q, Hid (coverT t (s.size + 12 + left) = q) := ⟨_, rfl⟩
  have Htt : Hid ({ t with kept := t1.kept - (s.size + 12), last := l.bytes.length + 1 } = { t1 with kept := t1.kept - (s.size + 12), last := l.bytes.length + 1 }) := by rw [← Ht1.out]; exact rfl
  rw [Hl1.out] at HCV HLb ⊢
  rw [Ht1.out] at HCV HM0 Hle ⊢
  clear Hl1 Ht1 h ht hm hl
  have b0 : s.size ≤ 8192 := h2
  go_enter Tryz.func53, Tryz.ntmps53
  go_wp2_with fail
  refine HCV.out.mono ?_
  rintro r w1 ⟨rfl, A1, g1, mv1⟩
  have HLG := hidx (mlog_any g1)
  obtain ⟨L, hL, hLA, lstep⟩ := g1.log
  have HSP := hidx (spend_out hL (by rw [HLb.out.1]; omega) (by rw [HLb.out.2.1]; omega) HLb.out.2.2.1 s h1 h2 (by rw [HLb.out.1]; omega))
  rw [HLb.out.1] at HSP
  have HSt := hidx lstep
  have HMV := hidx mv1
  clear g1 hL hLA lstep mv1 HCV
  go_wp2_with fail
  refine HLG.out.mono ?_
  rintro r w2 ⟨rfl, rfl⟩
  go_wp2_with fail
  refine HSP.out.mono ?_
  rintro r w2 ⟨rfl, L2, hL2, hm2⟩
  obtain ⟨A2, g2, mv2⟩ := HSt.out w2 _ _ hL2 rfl hm2
  obtain ⟨S2, hT2, hSA2, step2⟩ := g2.tx HM0.out
  have c5 := hT2.cells.c5
  have f5 := hT2.cells.fr 5
  have hle := Hle.out
  have em : (t1.kept : Int) - min ((s.size : Int) + 12) (t1.kept : Int) = ((t1.kept - (s.size + 12) : Nat) : Int) := by omega
  obtain ⟨q1, q2⟩ := hT2.put (t' := { t1 with kept := t1.kept - (s.size + 12) }) 5 (.int .i64 ((t1.kept - (s.size + 12) : Nat) : Int)) rfl (fun dv => rfl)
  obtain ⟨q3, q4⟩ := q1.put (t' := { t1 with kept := t1.kept - (s.size + 12), last := l.bytes.length + 1 }) 2 (.int .u64 ((l.bytes.length + 1 : Nat) : Int)) rfl (fun dv => rfl)
  have f2 := q1.cells.fr 2
  obtain ⟨A3, g3, mv3⟩ := step2 _ _ _ q3 rfl (q2.trans q4)
  have HF : Hid (∃ A', MSys ((w2.setCell ⟨X n, 5, none⟩ (.int .i64 ((t1.kept - (s.size + 12) : Nat) : Int))).setCell ⟨X n, 2, none⟩ (.int .u64 ((l.bytes.length + 1 : Nat) : Int))).drew m p X A' P { putG l1 s with kept := l1.kept - (s.size + 12) } d (M.set n { t with kept := t1.kept - (s.size + 12), last := l.bytes.length + 1 }) ∧ Moves A A' w ((w2.setCell ⟨X n, 5, none⟩ (.int .i64 ((t1.kept - (s.size + 12) : Nat) : Int))).setCell ⟨X n, 2, none⟩ (.int .u64 ((l.bytes.length + 1 : Nat) : Int))).drew) :=
    ⟨A3, by rw [Htt.out]; rw [MgG.set_set] at g3; exact g3.same (fun _ _ => rfl) (Nat.le_refl _), (HMV.out.trans (mv2.trans mv3)).kept ((Kept.refl _ _).drew)⟩
  have f2' := hT2.cells.fr 2
  have c2 := hT2.cells.c2
  have hw : IntKind.i64.wrap ((t1.kept - (s.size + 12) : Nat) : Int) = ((t1.kept - (s.size + 12) : Nat) : Int) := by rw [IntKind.wrap_i64]; omega
  clear f2
  clear hT2 hSA2 step2 q1 q2 q3 q4 g3 mv3 g2 mv2 hL2 hm2 HSt HSP HLG HM0 Hle Htt HLb HMV
  go_upto_region 8 with fail
  go_still_tail 13, (by kernel_rfl)
  go_wp2
  go_ret2
  exact ⟨rfl, HF.out⟩

end

end Go.Proofs.YthobhmejlonncaaGreat

namespace Go.Proofs.YthobhmejlonncaaGreat
open Go.RowKit Go.Sort
set_option linter.unusedVariables false
set_option linter.unusedSimpArgs false

/-- A transaction that has just begun. -/
def fresh (n : Nat) : MtV := ⟨n, 1, 0, 0, true, 128, []⟩

/-- A manager behind a Begin. -/
def MgG.born (M : MgG) : MgG := { M with T := fun k => if k = (M.next : Int) then some (fresh M.next) else M.T k, z := M.z + 1, next := M.next + 1 }

def bornX (X : Int → Nat) (n : Int) (b : Nat) : Int → Nat := fun k => if k = n then b else X k

section
variable {w : World} {m tb p : Nat} {dn : Value} {D : DataW Value} {X : Int → Nat} {S : Int → Nat → Prop} {B : Nat → Prop} {M : MgG}

/-- The next number is stored. -/
theorem MgAt.setNext (h : MgAt w m tb dn D X S B p M) (k : Nat) : MgAt (w.setCell ⟨m, 2, none⟩ (.int .i64 k)) m tb dn D X S B p { M with next := k } ∧ Moves B B w (w.setCell ⟨m, 2, none⟩ (.int .i64 k)) := by
  have hk := Kept.setCell B w m 2 (.int .i64 k) h.bm
  have ho : ∀ i, i ≠ m → (w.setCell ⟨m, 2, none⟩ (.int .i64 k)).heap[i]? = w.heap[i]? := fun i hi => by simp [World.setCell, Array.getElem?_modify, Ne.symm hi]
  refine ⟨⟨h.blk.set 2 _, h.map.same (ho tb h.mt), h.no, fun n t e => ?_, h.keys, ownsRow_same h.done fun g e => ho g fun q => h.dm (q ▸ e), h.apart, h.off, h.dm, h.bm, h.bt, h.bd, h.bs, fun i hi => Nat.lt_of_lt_of_le (h.lt i hi) hk.size⟩, Moves.of_kept hk⟩
  obtain ⟨a1, a2, a3, a4⟩ := h.yes n t e
  exact ⟨a1, a2, a3.same (fun i hi => ho i (h.off n (by rw [e]; exact Option.some_ne_none t) i hi).1) hk.size, a4⟩

/-- A transaction is laid into the map. -/
theorem MgAt.born {W : World} (h : MgAt w m tb dn D X S B p M) (n : Nat) (t : MtV) (htx : t.tx = n) (hd : t.debts = []) (hn : M.T n = none) (hz : M.z ≤ 1000000) (hr : (n : Int) ≤ 9223372036854775807)
    (hW : W = w.alloc (.cells (t.cells (.slice none 0 0)) 93)) :
    ∃ u : World → World, (Instr.mapUpdate 87 (.map (some tb)) (.int .i64 n) (.pointer (some ⟨w.heap.size, 0, none⟩))).run Tryz.prog W = .ok () (u W) ∧ ∃ B', IsMgr (u W) m B' p (bornX X n w.heap.size) { M with T := fun k => if k = (n : Int) then some t else M.T k, z := M.z + 1 } ∧ Moves B B' w (u W) := by
  have bW : Below w.heap.size w W := by rw [hW]; exact (Below.refl _ _).alloc (Nat.le_refl _) _
  have xW : Blk W w.heap.size (t.cells (.slice none 0 0)) 93 := by rw [hW]; exact Blk.made _ _ _
  have hA := h.same (fun i hi => bW.block i (h.lt i hi)) bW.size
  obtain ⟨u, hu⟩ := put_ex 3 87 90 tb (.int .i64 n) (.pointer (some ⟨w.heap.size, 0, none⟩))
  obtain ⟨hrun, hM, ht⟩ := hu W M.z D (xkey n) hA.map xKeyed Tryz.underlying87 hz (xkey_key (by omega) hr)
  have hk : Kept (fun k => k = tb) W (u W) := mapTurned_kept ht rfl
  have hkb : ∀ k, k < W.heap.size → k ≠ tb → (u W).heap[k]? = W.heap[k]? := fun k hk' hne => hk.block k hk' hne
  have hsz : W.heap.size ≤ (u W).heap.size := hk.size
  have hI : Maps.IsMap D := (hA.map.tidy xKeyed).isMap
  have hzz : Maps.size (D.put (xkey n) (.held (.pointer (some ⟨w.heap.size, 0, none⟩)))) = M.z + 1 := by
    rw [Maps.size_put (hA.map.tidy xKeyed), hA.map.2, h.no _ hn]; rfl
  rw [hzz] at hM
  have hne : ∀ k : Int, (if k = (n : Int) then some t else M.T k) ≠ none → k ≠ n → M.T k ≠ none := fun k q e => by rw [if_neg e] at q; exact q
  have hbl := xW.lt
  have hb : ∀ k, B k → k ≠ w.heap.size := fun k x e => by have := h.lt k x; omega
  have hbt : w.heap.size ≠ tb := fun e => hb tb h.bt e.symm
  refine ⟨u, hrun, fun k => B k ∨ k = w.heap.size, ⟨tb, dn, D.put (xkey n) (.held (.pointer (some ⟨w.heap.size, 0, none⟩))), fun k => if k = (n : Int) then (fun i => i = w.heap.size) else S k, ?_⟩, ?_⟩
  · refine ⟨hA.blk.same (hkb m hA.blk.lt h.mt.symm), hM, ?_, ?_, ?_, ownsRow_same hA.done fun g e => hkb g (hA.lt g (h.bd g e)) fun q => h.dt (q ▸ e), ?_, ?_, h.dm, .inl h.bm, .inl h.bt, fun g e => .inl (h.bd g e), ?_, ?_⟩
    · intro k e
      by_cases q : k = n
      · simp [q] at e
      · simp only [if_neg q] at e
        rw [Maps.has_put_other (xkey_ne q)]
        exact h.no k e
    · intro k x e
      by_cases q : k = n
      · subst q
        have hx : t = x := by simpa using e
        subst hx
        refine ⟨Maps.has_put_same hI (xkey_lit _) _, ?_, ?_, by rw [htx]⟩
        · rw [getV_put_same hI (xkey_lit _)]
          simp [bornX]
        · simp only [if_true, bornX]
          refine ⟨⟨.slice none 0 0, xW.same (hkb _ hbl hbt), ?_, fun g e => by cases e⟩, rfl, fun k e => by rw [e]; exact Nat.lt_of_lt_of_le hbl hsz⟩
          rw [hd]
          exact World.ownsRow_nil _ _ _ _
      · simp only [if_neg q] at e
        obtain ⟨a1, a2, a3, a4⟩ := hA.yes k x e
        have hkn : M.T k ≠ none := by rw [e]; exact Option.some_ne_none x
        refine ⟨by rw [Maps.has_put_other (xkey_ne q)]; exact a1, by rw [getV_put_other (xkey_ne q)]; simp only [bornX, if_neg q]; exact a2, ?_, a4⟩
        simp only [if_neg q, bornX]
        exact a3.same (fun i hi => hkb i (a3.lt i hi) (h.off k hkn i hi).2.1) hsz
    · intro l hl
      by_cases e : l = xkey n
      · exact ⟨n, e, by simp⟩
      · rw [Maps.has_put_other e] at hl
        obtain ⟨k, e1, e2⟩ := h.keys l hl
        refine ⟨k, e1, ?_⟩
        have : k ≠ n := fun q => e (by rw [e1, q])
        simp only [if_neg this]
        exact e2
    · intro k k' hkk h1 h2 i hi
      by_cases q : k = n
      · simp only [if_pos q] at hi
        have q' : k' ≠ n := fun e => hkk (q.trans e.symm)
        simp only [if_neg q']
        intro y
        exact hb i (h.bs k' (hne k' h2 q') i y) hi
      · simp only [if_neg q] at hi
        by_cases q' : k' = n
        · simp only [if_pos q']
          exact hb i (h.bs k (hne k h1 q) i hi)
        · simp only [if_neg q']
          exact h.apart k k' hkk (hne k h1 q) (hne k' h2 q') i hi
    · intro k h1 i hi
      by_cases q : k = n
      · simp only [if_pos q] at hi
        subst hi
        exact ⟨fun e => hb m h.bm e.symm, hbt, fun e => hb _ (h.bd _ e) rfl⟩
      · simp only [if_neg q] at hi
        exact h.off k (hne k h1 q) i hi
    · intro k h1 i hi
      by_cases q : k = n
      · simp only [if_pos q] at hi; exact .inr hi
      · simp only [if_neg q] at hi; exact .inl (h.bs k (hne k h1 q) i hi)
    · rintro k (x | x)
      · exact Nat.lt_of_lt_of_le (hA.lt k x) hsz
      · rw [x]; exact Nat.lt_of_lt_of_le hbl hsz
  · refine ⟨⟨hk.os.trans bW.os, hk.tape.trans bW.tape, hk.output.trans bW.output, Nat.le_trans bW.size hsz, fun i hi hs => ?_⟩, ?_⟩
    · exact (hkb i (Nat.lt_of_lt_of_le hi bW.size) fun e => hs (e ▸ h.bt)).trans (bW.block i hi)
    · rintro k (x | x)
      · exact .inl x
      · exact .inr (by omega)

end

section
variable {w : World} {m p : Nat} {X : Int → Nat} {A : Nat → Prop} {P : PG} {l : LG} {d : DG} {M : MgG}

set_option maxHeartbeats 1600000 in
set_option maxRecDepth 20000 in
theorem coming_any (h : MSys w m p X A P l d M) (hn : M.next ≤ 1000000000) (ht : M.T M.next = none) :
    Calls Tryz.prog 29 #[.pointer (some ⟨m, 0, none⟩)] w fun r w' => r = .returned (.int .i64 M.next) ∧ w = w' := by
  obtain ⟨tb, c0, c1, c2, c3, hl⟩ := h.reads
  replace hl := hl M.next (by omega) (by omega)
  rw [ht] at hl
  simp only [Option.isSome_none, Bool.false_eq_true, if_false] at hl
  clear h ht
  go_enter Tryz.func29, Tryz.ntmps29
  go_wp2
  go_loopw [3, 5] (fun v3 v wr => v3 = .int .i64 M.next ∧ v = .bool false ∧ wr = w) (fun _ _ _ => 0)
  case atStart => exact ⟨rfl, rfl, rfl⟩
  case round =>
    obtain ⟨rfl, rfl, rfl⟩ := hrel
    go_wp2
    go_ret
    exact ⟨rfl, rfl⟩

set_option maxHeartbeats 1600000 in
set_option maxRecDepth 20000 in
theorem begin_ok (h : MSys w m p X A P l d M) (hn : M.next ≤ 1000000000) (ht : M.T M.next = none) (hz : M.z < 64) (hb : l.bytes.length ≤ 4194304) (hk : l.kept + 128 + l.bytes.length ≤ 4194304) :
    Calls Tryz.prog 8 #[.pointer (some ⟨m, 0, none⟩)] w fun r w' => r = .returned (.tuple #[.int .i64 M.next, .int .i64 0]) ∧ ∃ A' b, MSys w' m p (bornX X M.next b) A' P { l with kept := l.kept + 128 } d M.born ∧ Moves A A' w w' := by
  obtain ⟨tb, c0, c1, c2, c3, _⟩ := h.reads
  have HLG := hidx (mlog_any h)
  have hlen : ∀ ty, (Builtin.len_ #[87] ty #[.map (some tb)]).run Tryz.prog w = .ok (.int .i64 M.z) w := by
    obtain ⟨B, ⟨tb', dn, D, S, hM⟩, _, _⟩ := h.mgr
    have e : tb' = tb := by have := hM.blk.cell 1; rw [c1] at this; simpa using this.symm
    subst e
    intro ty
    have := hM.map.1.len (t := 87) (e := 90) Tryz.underlying87 ty
    rw [hM.map.2] at this
    exact this
  obtain ⟨L, hL, hLA, lstep⟩ := h.log
  have HK := hidx (keep_ok hL hb (by omega) 128 (by omega) (by omega))
  have HSt := hidx lstep
  have HT := hidx ht
  have hz' : (M.z : Int) < 64 := by omega
  clear h hL hLA lstep c0 c2 c3 ht
  go_enter Tryz.func8, Tryz.ntmps8
  go_wp2_with fail
  refine HLG.out.mono ?_
  rintro r w1 ⟨rfl, rfl⟩
  clear hlen
  go_wp2_with fail
  refine HK.out.mono ?_
  rintro r w1 ⟨rfl, hL1, hm1⟩
  obtain ⟨A1, h1, mv1⟩ := HSt.out w1 _ _ hL1 rfl hm1
  have HC := hidx (coming_any h1 hn HT.out)
  have H1 := hidx h1
  have MV1 := hidx mv1
  clear h1 mv1 hL1 hm1 HSt HK HLG
  go_wp2_with fail
  refine HC.out.mono ?_
  rintro r w2 ⟨rfl, rfl⟩
  clear HC
  obtain ⟨B, ⟨tb', dn, D, S, hM⟩, hBA, mstep⟩ := H1.out.mgr
  have g2 := hM.blk.cell 2
  have f2 := hM.blk.frozen 2
  have g1 := hM.blk.cell 1
  obtain ⟨hM2, mv2⟩ := hM.setNext (M.next + 1)
  obtain ⟨W, HW⟩ : ∃ W, Hid (W = w1.setCell ⟨m, 2, none⟩ (.int .i64 ((M.next : Int) + 1))) := ⟨_, rfl⟩
  have eW : w1.setCell ⟨m, 2, none⟩ (.int .i64 ((M.next + 1 : Nat) : Int)) = W := HW.out.symm
  rw [eW] at hM2 mv2
  have g1' : W.cell? ⟨m, 1, none⟩ = some (.map (some tb')) := hM2.blk.cell 1
  obtain ⟨u, hrun, B', hM3, mv3⟩ := hM2.born (W := W.alloc (.cells ((fresh M.next).cells (.slice none 0 0)) 93)) M.next (fresh M.next) rfl rfl HT.out (by show M.z ≤ _; omega) (by omega) rfl
  have HRUN : Hid (∀ v : Value, v = .pointer (some ⟨W.heap.size, 0, none⟩) → (Instr.mapUpdate 87 (.map (some tb')) (.int .i64 M.next) v).run Tryz.prog (W.alloc (.cells #[.int .i64 M.next, .int .i64 1, .int .u64 0, .int .u64 0, .bool true, .int .i64 128, .slice none 0 0] 93)) = .ok () (u (W.alloc (.cells #[.int .i64 M.next, .int .i64 1, .int .u64 0, .int .u64 0, .bool true, .int .i64 128, .slice none 0 0] 93)))) := fun v e => by rw [e]; exact hrun
  have hrun' := HRUN.out _ rfl
  obtain ⟨A3, h3, mv4⟩ := mstep _ _ _ _ hM3 (mv2.trans mv3)
  have HF := hidx (⟨A3, _, h3, MV1.out.trans mv4⟩ : ∃ A' b, MSys (u (W.alloc (.cells ((fresh M.next).cells (.slice none 0 0)) 93))) m p (bornX X M.next b) A' P { l with kept := l.kept + 128 } d M.born ∧ Moves A A' w (u (W.alloc (.cells ((fresh M.next).cells (.slice none 0 0)) 93))))
  have HWW := HW
  clear h3 mv4 mstep mv2 mv3 hM3 hrun hM2 hM hBA MV1 H1 HT HRUN eW
  go_upto_region 10 with fail
  rw [← HW.out]
  clear HW HWW g1 g2 f2
  go_wp2
  go_ret2
  exact ⟨rfl, HF.out⟩

end

end Go.Proofs.YthobhmejlonncaaGreat
