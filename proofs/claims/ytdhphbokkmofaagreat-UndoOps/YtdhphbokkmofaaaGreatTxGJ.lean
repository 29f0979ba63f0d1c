/-
  A transaction's changes of slots of some pages, with records in between that are not taken back: where undoing goes, and what is owed; plain data.
-/
import Derived.Test.YtdhphbokkmofaaaGreatTxNextPJ
import Derived.Test.YtdhphbokkmofaaaGreatTxLineJ
import Derived.Test.YtdhphbokkmofaaaGreatTxCompC
import Derived.Deep.RegionHeld3
import Derived.Test.YtdhphbokkmofaaaGreatTxPartJ
import Derived.Test.YtdhphbokkmofaaaGreatPoolReadJ
import Derived.Test.YtdhphbokkmofaaaGreatNilMathJ
set_option linter.unusedVariables false
set_option linter.unusedSimpArgs false
namespace Go.Proofs.YtdhphbokkmofaaaGreat
open Go.RowKit Go.Sort

def RecIn (rs : List ByteArray) (pl : Nat) (r : RecV) : Prop := ∃ i, i < rs.length ∧ placeOf rs i = pl ∧ rs.getD i ⟨#[]⟩ = ⟨(encR r).toArray⟩

theorem RecIn.snoc {rs : List ByteArray} {pl : Nat} {r : RecV} (h : RecIn rs pl r) (x : ByteArray) : RecIn (rs ++ [x]) pl r := by
  obtain ⟨i, h1, h2, h3⟩ := h
  exact ⟨i, by simp; omega, by rw [placeOf_snoc rs x i (by omega)]; exact h2, by rw [← h3, List.getD_eq_getElem?_getD, List.getD_eq_getElem?_getD, List.getElem?_append_left h1]⟩

theorem RecIn.last {l : LG} {rs : List ByteArray} (h : RecsAt l rs) (r : RecV) : RecIn (rs ++ [⟨(encR r).toArray⟩]) (l.bytes.length + 1) r :=
  ⟨rs.length, by simp, by rw [placeOf_snoc rs _ _ (Nat.le_refl _)]; exact h.long.symm, by rw [getD_last]⟩

structure RecOk (n : Nat) (r : RecV) : Prop where
  may : mayR r = true
  wide : r.Wide
  prev : r.prev < 18446744073709551616
  next : r.next < 18446744073709551616
  page : r.page < 4294967296
  rpage : r.rpage < 4294967296
  len : (encR r).length ≤ 8192
  ok : ∀ wx ta da, TxsAt wx ta r.txs → DisAt wx da r.dirty → r.Ok wx ta da
  tx : r.tx = n

def GTo (rs : List ByteArray) (n a e : Nat) : Prop := ∃ path, PathTo a path e ∧ ∀ x ∈ path, RecIn rs x.1 x.2 ∧ RecOk n x.2

theorem PathTo.le : ∀ {path : List (Nat × RecV)} {a e : Nat}, PathTo a path e → e ≤ a
  | [], a, e, h => by have : a = e := h; omega
  | x :: ps, a, e, h => by
    obtain ⟨h1, _, _, h4, h5⟩ := h
    have := PathTo.le h5
    omega

theorem GTo.le {rs : List ByteArray} {n a e : Nat} (h : GTo rs n a e) : e ≤ a := by
  obtain ⟨path, h1, _⟩ := h
  exact h1.le

theorem GTo.refl (rs : List ByteArray) (n a : Nat) : GTo rs n a a := ⟨[], rfl, fun x hx => by simp at hx⟩

theorem GTo.snoc {rs : List ByteArray} {n a e : Nat} (h : GTo rs n a e) (x : ByteArray) : GTo (rs ++ [x]) n a e := by
  obtain ⟨path, h1, h2⟩ := h
  exact ⟨path, h1, fun y hy => ⟨(h2 y hy).1.snoc x, (h2 y hy).2⟩⟩

theorem GTo.over {rs : List ByteArray} {n a e : Nat} {pl : Nat} {r : RecV} (h : GTo rs n a e) (hr : RecIn rs pl r) (ho : RecOk n r) (hu : ¬ (r.kind = 1 ∧ r.undo ≠ 0)) (hl : leadN r = a) (hlt : a < pl) : GTo rs n pl e := by
  obtain ⟨path, h1, h2⟩ := h
  refine ⟨(pl, r) :: path, ⟨rfl, by show pl ≠ 0; omega, hu, by show leadN r < pl; omega, ?_⟩, fun y hy => ?_⟩
  · show PathTo (leadN r) path e
    rw [hl]; exact h1
  · rcases List.mem_cons.1 hy with rfl | hy
    · exact ⟨hr, ho⟩
    · exact h2 y hy

structure UpG where
  u : UpV
  pg : Nat
  prev : Nat

def GChain (rs : List ByteArray) (n : Nat) : Nat → List UpG → Prop
  | a, [] => GTo rs n a 0
  | a, x :: xs => GTo rs n a x.u.pl ∧ x.u.pl ≠ 0 ∧ RecIn rs x.u.pl (lineR n x.pg x.prev x.u) ∧ x.prev < x.u.pl ∧ (1 ≤ x.pg ∧ x.pg ≤ 2048) ∧ x.u.S.size ≤ 400 ∧ x.u.old.size ≤ 400 ∧ GChain rs n x.prev xs

def ups (L : List UpG) : List UpV := L.map UpG.u

structure TxG (rs : List ByteArray) (b : Nat) (t : MtV) (n : Nat) (L : List UpG) : Prop where
  chain : GChain rs n t.next L
  lchain : GChain rs n t.last L
  tx : t.tx = n
  debts : t.debts = debtsOf (ups L)
  kept : roomSum (ups L) + cOf t.state ≤ t.kept
  last : t.last ≤ b
  next : t.next ≤ b
  begun : t.begun = true
  nn : n ≤ 2147483647

section
variable {l : LG} {rs : List ByteArray} {b : Nat} {t : MtV} {n pg : Nat} {L xs : List UpG} {x : UpG}

end

end Go.Proofs.YtdhphbokkmofaaaGreat

namespace Go.Proofs.YtdhphbokkmofaaaGreat
open Go.RowKit Go.Sort

structure UpN where
  u : UpV
  r : RecV
  inv : OpV

def upn (L : List UpN) : List UpV := L.map UpN.u

structure UpOk (n : Nat) (x : UpN) : Prop where
  kind : x.r.kind = 1
  undo : x.r.undo ≠ 0
  ok : RecOk n x.r
  pg : 1 ≤ x.r.page ∧ x.r.page ≤ 2048
  len : x.u.S.size + x.u.old.size + 25 = (encR x.r).length
  oop : x.r.op.Ok
  iok : x.inv.Ok
  chk : chkB x.inv = true
  clr : ∀ (t : MtV) (next : Nat), t.last < 18446744073709551616 → next < 18446744073709551616 → RecOk n (recC t n x.r.page x.inv next)
  clen : ∀ (t : MtV) (next : Nat), 1 ≤ (compS t n x.r.page x.inv next).size ∧ (compS t n x.r.page x.inv next).size + 12 ≤ 197 + x.u.S.size + x.u.old.size

theorem UpOk.small {n : Nat} {x : UpN} (h : UpOk n x) : x.u.S.size + x.u.old.size ≤ 8167 := by have := h.len; have := h.ok.len; omega

def GChainN (rs : List ByteArray) (n : Nat) : Nat → List UpN → Prop
  | a, [] => GTo rs n a 0
  | a, x :: xs => GTo rs n a x.u.pl ∧ x.u.pl ≠ 0 ∧ RecIn rs x.u.pl x.r ∧ x.r.prev < x.u.pl ∧ UpOk n x ∧ GChainN rs n x.r.prev xs

theorem GChainN.snoc {rs : List ByteArray} {n : Nat} (x : ByteArray) : ∀ {L : List UpN} {a : Nat}, GChainN rs n a L → GChainN (rs ++ [x]) n a L
  | [], _, h => GTo.snoc h x
  | _ :: _, _, ⟨h1, h2, h3, h4, h5, h6⟩ => ⟨h1.snoc x, h2, h3.snoc x, h4, h5, h6.snoc x⟩

theorem GChainN.plOf {rs : List ByteArray} {n : Nat} : ∀ {L : List UpN} {a : Nat}, GChainN rs n a L → Go.Proofs.YtdhphbokkmofaaaGreat.plOf (upn L) ≤ a
  | [], _, _ => Nat.zero_le _
  | _ :: _, _, h => h.1.le

theorem GChainN.falls {rs : List ByteArray} {n : Nat} : ∀ {L : List UpN} {a : Nat}, GChainN rs n a L → FallsL (upn L)
  | [], _, _ => trivial
  | x :: xs, _, ⟨h1, h2, h3, h4, h5, h6⟩ => ⟨by have := h6.plOf; show Go.Proofs.YtdhphbokkmofaaaGreat.plOf (upn xs) < x.u.pl; omega, h6.falls⟩

theorem GChainN.over {rs : List ByteArray} {n : Nat} {pl a : Nat} {r : RecV} (hr : RecIn rs pl r) (ho : RecOk n r) (hu : ¬ (r.kind = 1 ∧ r.undo ≠ 0)) (hl : leadN r = a) (hlt : a < pl) : ∀ {L : List UpN}, GChainN rs n a L → GChainN rs n pl L
  | [], h => GTo.over h hr ho hu hl hlt
  | _ :: _, ⟨h1, h2, h3⟩ => ⟨h1.over hr ho hu hl hlt, h2, h3⟩

theorem GChainN.ok {rs : List ByteArray} {n : Nat} : ∀ {L : List UpN} {a : Nat}, GChainN rs n a L → ∀ x ∈ L, UpOk n x ∧ 0 < x.u.pl
  | [], _, _, x, hx => by simp at hx
  | y :: ys, _, ⟨_, h2, _, _, h5, h6⟩, x, hx => by
    rcases List.mem_cons.1 hx with rfl | hx
    · exact ⟨h5, by omega⟩
    · exact h6.ok x hx

structure TxN (rs : List ByteArray) (b : Nat) (t : MtV) (n : Nat) (L : List UpN) : Prop where
  chain : GChainN rs n t.next L
  lchain : GChainN rs n t.last L
  tx : t.tx = n
  debts : t.debts = debtsOf (upn L)
  kept : roomSum (upn L) + cOf t.state ≤ t.kept
  last : t.last ≤ b
  next : t.next ≤ b
  begun : t.begun = true
  nn : n ≤ 2147483647

section
variable {l : LG} {rs : List ByteArray} {b : Nat} {t : MtV} {n pg : Nat} {L xs : List UpN} {x : UpN}

theorem TxN.start (rs : List ByteArray) (b n : Nat) (hn : n ≤ 2147483647) : TxN rs b (fresh n) n [] :=
  ⟨GTo.refl _ _ _, GTo.refl _ _ _, rfl, rfl, by show 0 + 50 ≤ 128; omega, Nat.zero_le _, Nat.zero_le _, rfl, hn⟩

theorem TxN.at {b : Nat} (h : TxN rs b t n (x :: xs)) : TxN rs b { t with next := x.u.pl } n (x :: xs) := by
  obtain ⟨g1, g2⟩ := h.chain
  exact ⟨⟨GTo.refl _ _ _, g2⟩, h.lchain, h.tx, h.debts, h.kept, h.last, Nat.le_trans g1.le h.next, h.begun, h.nn⟩

def recN (n last : Nat) (c : ChgV) : RecV := ⟨1, n, last, 0, c.page, c.op, c.undo, c.index, c.key, c.rpage, c.rslot, c.live, [], []⟩

theorem recU_eq {t : MtV} {n : Nat} (h : t.tx = n) (c : ChgV) : recU t c = recN n t.last c := by unfold recU recN; rw [h]

theorem TxN.log {c : ChgV} (h : TxN rs l.bytes.length t n L) (hR : RecsAt l rs) (hst : t.state = 1) (hx : x.r = recN n t.last c) (hpl : x.u.pl = l.bytes.length + 1) (hu : UpOk n x) {b' : Nat} (hb' : l.bytes.length + 1 ≤ b') :
    TxN (rs ++ [logS t c]) b' (logT t c (l.bytes.length + 1)) n (x :: L) := by
  have hla := h.last
  have e : logS t c = ⟨(encR x.r).toArray⟩ := by
    show ByteArray.mk (encR (recU t c)).toArray = _
    rw [recU_eq h.tx, hx]
  have sz : (logS t c).size = 25 + x.u.S.size + x.u.old.size := by
    rw [e]
    show (encR x.r).toArray.size = _
    rw [List.size_toArray]
    have := hu.len
    omega
  have hin : RecIn (rs ++ [logS t c]) x.u.pl x.r := by rw [hpl, e]; exact RecIn.last hR _
  have hprev : x.r.prev = t.last := by rw [hx]; rfl
  have hch : GChainN (rs ++ [logS t c]) n (l.bytes.length + 1) (x :: L) :=
    ⟨by rw [hpl]; exact GTo.refl _ _ _, by omega, hin, by omega, hu, by rw [hprev]; exact h.lchain.snoc _⟩
  have hstn : standN t.debts (l.bytes.length + 1) = (upn L).length := by rw [h.debts]; exact stand_line h.chain.falls (by have := h.chain.plOf; have := h.next; omega)
  refine ⟨hch, hch, h.tx, ?_, ?_, hb', hb', h.begun, h.nn⟩
  · show t.debts ++ [_] = debtsOf (upn L) ++ [_]
    rw [hstn, h.debts, owed_line, sz]
    show debtsOf (upn L) ++ [DbV.mk _ _] = debtsOf (upn L) ++ [DbV.mk x.u.pl (roomSum (upn L) + (197 + x.u.S.size + x.u.old.size))]
    rw [hpl, show roomSum (upn L) + (25 + x.u.S.size + x.u.old.size + 172) = roomSum (upn L) + (197 + x.u.S.size + x.u.old.size) by omega]
  · have := h.kept
    show roomSum (upn L) + (197 + x.u.S.size + x.u.old.size) + cOf t.state ≤ t.kept + ((logS t c).size + 172)
    rw [sz]; omega

theorem TxN.comp (h : TxN rs l.bytes.length t n (x :: xs)) (hR : RecsAt l rs) (hb : l.bytes.length ≤ 4194304) {t' : MtV} {cz : Nat} (hcz : (compS t n x.r.page x.inv x.r.prev).size = cz) (ht : t' = { t with kept := t.kept - (cz + 12), last := l.bytes.length + 1, next := x.r.prev, debts := debtsOf (upn xs) }) {b' : Nat} (hb' : l.bytes.length + 1 ≤ b') :
    TxN (rs ++ [compS t n x.r.page x.inv x.r.prev]) b' t' n xs := by
  obtain ⟨g1, g2, g3, g4, g5, g8⟩ := h.chain
  have hla := h.last
  have hnx := h.next
  have hnn := h.nn
  have hle := g1.le
  have hcl := (g5.clen t x.r.prev).2
  have hk : roomSum (upn xs) + (197 + x.u.S.size + x.u.old.size) + cOf t.state ≤ t.kept := h.kept
  have hin : RecIn (rs ++ [compS t n x.r.page x.inv x.r.prev]) (l.bytes.length + 1) (recC t n x.r.page x.inv x.r.prev) := RecIn.last hR _
  have hch := g8.snoc (compS t n x.r.page x.inv x.r.prev)
  subst ht
  refine ⟨hch, GChainN.over (a := x.r.prev) hin (g5.clr t x.r.prev (by omega) (by omega)) (fun e => by have : (2 : Int) = 1 := e.1; omega) rfl (by omega) hch, h.tx, rfl, ?_, hb', ?_, h.begun, hnn⟩
  · show roomSum (upn xs) + cOf t.state ≤ t.kept - (cz + 12); omega
  · show x.r.prev ≤ b'; omega

end

end Go.Proofs.YtdhphbokkmofaaaGreat

namespace Go.Proofs.YtdhphbokkmofaaaGreat
open Go.RowKit Go.Sort

section
variable {w : World} {m p : Nat} {X : Int → Nat} {A : Nat → Prop} {P : PG} {l : LG} {d : DG} {M : MgG} {rs : List ByteArray} {t : MtV} {n : Nat} {L xs : List UpG} {x : UpG} {K0 F : Nat}

theorem read_rec (h : MSys w m p X A P l d M) (hR : RecsAt l rs) (hb : l.bytes.length ≤ 4194304) {pl : Nat} {r : RecV} (hin : RecIn rs pl r) (hok : RecOk n r) :
    Calls Tryz.prog 161 #[.pointer (some ⟨m, 0, none⟩), .int .i64 n, .int .u64 pl] w fun e w' => ∃ ta da tc dc, e = .returned (.tuple #[.agg (r.cells ta da tc dc), .int .i64 0]) ∧ Below w.heap.size w w' := by
  obtain ⟨i, hi, hpl, hrb⟩ := hin
  have hcnt := hR.count
  refine read_ok h n pl (placeOf rs (i + 1)) (rs.getD i ⟨#[]⟩) (fun wz bz => ?_) r (fun wz => ?_) hok.tx
  · obtain ⟨Lg, hLg, _, _⟩ := (h.below bz).log
    have := get_recs hLg hR (by omega) hb i hi
    rw [hpl] at this
    refine this.mono ?_
    rintro e w' ⟨rfl, q, rfl⟩
    exact ⟨rfl, below_drewN (Below.refl _ _) q⟩
  · rw [hrb]
    exact dec_rec _ wz hok.may hok.wide hok.prev hok.next hok.page hok.rpage hok.len hok.ok

end

end Go.Proofs.YtdhphbokkmofaaaGreat

namespace Go.Proofs.YtdhphbokkmofaaaGreat
open Go.RowKit Go.Sort

theorem placeOf_ext (rs : List ByteArray) : ∀ (ext : List ByteArray) (i : Nat), i ≤ rs.length → placeOf (rs ++ ext) i = placeOf rs i := by
  intro ext
  induction ext generalizing rs with
  | nil => intro i _; rw [List.append_nil]
  | cons s ext ih =>
    intro i hi
    have := ih (rs ++ [s]) i (by simp; omega)
    rw [List.append_assoc] at this
    rw [show rs ++ s :: ext = rs ++ ([s] ++ ext) from rfl, this, placeOf_snoc rs s i hi]

theorem RecOk.mark (n last : Nat) (k : Int) (hk : 4 ≤ k ∧ k ≤ 6) (hn : n ≤ 2147483647) (hl : last < 18446744073709551616) : RecOk n (recM k n last) := by
  refine ⟨recM_may k n last hk hn, ⟨fun i hi => by simp [recM] at hi, fun i hi => by simp [recM] at hi⟩, hl, by show (0 : Nat) < _; omega, by show (0 : Nat) < _; omega, by show (0 : Nat) < _; omega, by rw [recM_len k n last hk]; omega, fun wx ta da a b => ?_, rfl⟩
  have := recM_ok k n last hk hn hl wx
  exact ⟨this.kind, this.tx, this.prev, this.next, this.page, this.op, this.undo, this.index, this.key, this.rpage, this.rslot, this.tlen, this.dlen, a, b⟩

section
variable {w : World} {m p : Nat} {X : Int → Nat} {A : Nat → Prop} {P : PG} {l : LG} {d : DG} {M : MgG} {rs : List ByteArray} {t : MtV} {n : Nat} {L xs : List UpG} {x : UpG} {K0 F : Nat}

end

end Go.Proofs.YtdhphbokkmofaaaGreat

namespace Go.Proofs.YtdhphbokkmofaaaGreat
open Go.RowKit Go.Sort

section
variable {w : World} {m p : Nat} {X : Int → Nat} {A : Nat → Prop} {P : PG} {l : LG} {d : DG} {M : MgG} {rs : List ByteArray} {t : MtV} {n : Nat} {L xs : List UpG} {x : UpG} {K0 F : Nat}

theorem TxG.ended {rs : List ByteArray} {l : LG} (h : 25 ≤ t.kept) (hR : RecsAt l rs) (hq : l.kept = K0 + t.kept) (hb : l.bytes.length + l.kept ≤ F) : RecsAt (endL l t) (rs ++ [markS 6 t]) ∧ (endL l t).kept = K0 ∧ (endL l t).bytes.length = l.bytes.length + 25 ∧ (endL l t).bytes.length + (endL l t).kept ≤ F := by
  have sz := markS_size 6 t (by omega)
  have e := spend_eqs l t (markS 6 t) 0 (by rw [sz]; omega)
  have hR' := hR.snoc (markS 6 t)
  have hl := putG_len l (markS 6 t)
  have a1 : (endL l t).kept = K0 := by
    unfold endL
    rw [e.1, e.2]
    show l.kept - ((markS 6 t).size + 12) - (t.kept - ((markS 6 t).size + 12)) = K0
    rw [sz]; omega
  have a2 : (endL l t).bytes.length = l.bytes.length + 25 := by
    unfold endL
    rw [e.1, e.2]
    show (putG l (markS 6 t)).bytes.length = _
    rw [hl, sz]
  refine ⟨?_, a1, a2, by rw [a1, a2]; omega⟩
  unfold endL
  rw [e.1, e.2]
  exact ⟨hR'.starts, hR'.long, hR'.text⟩

theorem ended_lok {l : LG} {t : MtV} {d : DG} (h : 25 ≤ t.kept) (hlo : LOk l d) (hb : (endL l t).bytes.length = l.bytes.length + 25) (hm : l.bytes.length + 25 ≤ 4194304) : LOk (endL l t) d := by
  have sz := markS_size 6 t (by omega)
  have e := spend_eqs l t (markS 6 t) 0 (by rw [sz]; omega)
  refine ⟨?_, ?_, by rw [hb]; exact hm, ?_⟩
  · unfold endL; rw [e.1, e.2]; exact hlo.half
  · rw [hb]; have := hlo.fl; unfold endL; rw [e.1, e.2]; show l.flushed ≤ _; omega
  · unfold endL; rw [e.1, e.2]; exact hlo.at'

end

end Go.Proofs.YtdhphbokkmofaaaGreat

namespace Go.Proofs.YtdhphbokkmofaaaGreat
open Go.RowKit Go.Sort

structure SameC (a b : SheetV) : Prop where
  kind : a.kind = b.kind
  head : a.head = b.head
  slots : a.slots = b.slots

structure PgN (lp z : Nat) (D : Nat → Prop) (P : PG) (V : Nat → SheetV) : Prop where
  at' : ∀ pg, D pg → ∃ f, P.F pg = some f ∧ f.sh.Fits ∧ f.sh.num = pg ∧ SameC f.sh (V pg)
  z : P.z ≤ z
  lp' : P.lp = lp

theorem PgN.put {lp z : Nat} {D : Nat → Prop} {P : PG} {V V' : Nat → SheetV} (h : PgN lp z D P V) {q : SheetV} {pg lsn : Nat} {f : FrV} (hf : P.F pg = some f) (hn : q.num = pg) (hfit : ({ q with lsn := lsn } : SheetV).Fits) (hs : SameC q (V' pg)) (ho : ∀ k, k ≠ pg → V' k = V k) : PgN lp z D (putP P { q with lsn := lsn }) V' := by
  refine ⟨fun k hk => ?_, ?_, h.lp'⟩
  · by_cases e : k = pg
    · subst e
      refine ⟨⟨{ q with lsn := lsn }, sinceF (oldS P q.num) lsn⟩, ?_, hfit, hn, hs.kind, hs.head, hs.slots⟩
      show setFr P.F q.num _ k = _
      rw [hn]
      simp [setFr]
    · obtain ⟨g, a1, a2, a3, a4⟩ := h.at' k hk
      refine ⟨g, ?_, a2, a3, by rw [ho k e]; exact a4⟩
      show setFr P.F q.num _ k = _
      rw [hn]
      simp only [setFr, if_neg e]
      exact a1
  · show (if (P.F q.num).isSome = true then P.z else _) ≤ _
    rw [hn, hf]
    exact h.z

structure DoesN (D : Nat → Prop) (V : Nat → SheetV) (pg : Nat) (o : OpV) (V' : Nat → SheetV) : Prop where
  dom : D pg
  do' : ∀ s : SheetV, s.Fits → s.num = pg → SameC s (V pg) → ∃ q, ChangeDoes s o 0 q ∧ q.num = pg ∧ q.slots ≠ [] ∧ SameC q (V' pg) ∧ ∀ lsn, lsn < 18446744073709551616 → ({ q with lsn := lsn } : SheetV).Fits
  oth : ∀ k, k ≠ pg → V' k = V k

def UndN (CL : UpN → SheetV → Prop) (D : Nat → Prop) : (Nat → SheetV) → List UpN → (Nat → SheetV) → Prop
  | V, [], V' => V = V'
  | V, x :: xs, V' => ∃ V1, DoesN D V x.r.page x.inv V1 ∧ (∀ s : SheetV, s.Fits → s.num = x.r.page → SameC s (V x.r.page) → CL x s) ∧ UndN CL D V1 xs V'

structure JOk (n : Nat) (J : List ByteArray → Nat → List UpN → Prop) : Prop where
  log : ∀ {rs : List ByteArray} {last : Nat} {L : List UpN} {x : UpN} {l : LG}, RecsAt l rs → J rs last L → UpOk n x → x.r.prev = last → x.u.pl = l.bytes.length + 1 → J (rs ++ [⟨(encR x.r).toArray⟩]) (l.bytes.length + 1) (x :: L)
  comp : ∀ {rs : List ByteArray} {last : Nat} {xs : List UpN} {x : UpN} {l : LG} (r : RecV), RecsAt l rs → J rs last (x :: xs) → UpOk n x → RecOk n r → r.kind = 2 → r.prev = last → r.next = x.r.prev → J (rs ++ [⟨(encR r).toArray⟩]) (l.bytes.length + 1) xs
  mark : ∀ {rs : List ByteArray} {last : Nat} {L : List UpN} {l : LG} (r : RecV), RecsAt l rs → J rs last L → RecOk n r → 3 < r.kind → r.prev = last → J (rs ++ [⟨(encR r).toArray⟩]) (l.bytes.length + 1) L
  top : ∀ {rs : List ByteArray} {last : Nat} {K xs : List UpN} {l : LG} (r : RecV), RecsAt l rs → J rs last (K ++ xs) → RecOk n r → r.kind = 3 → r.prev = last → J (rs ++ [⟨(encR r).toArray⟩]) (l.bytes.length + 1) xs

structure GN (w0 wx : World) (m p : Nat) (X : Int → Nat) (A0 : Nat → Prop) (lp z : Nat) (d : DG) (M0 : MgG) (rs0 : List ByteArray) (n K0 F : Nat) (st : Int) (e : Prop) (D : Nat → Prop) (V : Nat → SheetV) (J : List ByteArray → Nat → List UpN → Prop) (L : List UpN) : Prop where
  ex : ∃ A P l rs t ext, MSys wx m p X A P l d (M0.set n t) ∧ RecsAt l rs ∧ TxN rs l.bytes.length t n L ∧ t.state = st ∧ l.kept = K0 + t.kept ∧ l.bytes.length + l.kept ≤ F ∧ PgN lp z D P V ∧ Moves A0 A w0 wx ∧ rs = rs0 ++ ext ∧ LOk l d ∧ J rs t.last L ∧ (e → t.next = plOf (upn L))

structure Clo (m p : Nat) (X : Int → Nat) (d : DG) (n : Nat) (fn : FuncId) (cap : Value) (B : World → (Nat → Prop) → Prop) (CL : UpN → SheetV → Prop) : Prop where
  moves : ∀ {wx wy : World} {A A' : Nat → Prop}, B wx A → Moves A A' wx wy → B wy A'
  enter : ∀ (v : Value) (wx : World), (callFunc fn #[.int .i64 n, v, cap]).run Tryz.prog wx = .ok (.enter fn #[.int .i64 n, v, cap]) wx
  call : ∀ {wz : World} {A1 : Nat → Prop} {P1 : PG} {l1 : LG} {M1 : MgG} (x : UpN) (f : FrV) (ta da : Option Addr) (tc dc at' : Nat) (P' : PG) (l' : LG) (M' : MgG), MSys wz m p X A1 P1 l1 d M1 → B wz A1 → UpOk n x → P1.F x.r.page = some f → f.sh.Fits → f.sh.num = x.r.page → CL x f.sh →
    (∀ wx, Below wz.heap.size wz wx → Calls Tryz.prog 47 #[.pointer (some ⟨m, 0, none⟩), .int .i64 n, .int .u32 x.r.page, x.inv.val, .int .u64 x.r.prev] wx fun e w' => e = .returned (.tuple #[.int .u64 at', .int .i64 0]) ∧ ∃ A', MSys w' m p X A' P' l' d M' ∧ Moves A1 A' wx w') →
    Calls Tryz.prog fn #[.int .i64 n, .agg (x.r.cells ta da tc dc), cap] wz fun e w' => e = .returned (.int .i64 0) ∧ ∃ A', MSys w' m p X A' P' l' d M' ∧ Moves A1 A' wz w'

section
variable {w w0 wx : World} {m p lp z : Nat} {X : Int → Nat} {A A0 : Nat → Prop} {P : PG} {l : LG} {d : DG} {M M0 : MgG} {rs rs0 : List ByteArray} {t : MtV} {n : Nat} {L xs : List UpN} {x : UpN} {K0 F : Nat} {st : Int} {e0 : Prop} {D : Nat → Prop} {V V' : Nat → SheetV} {J : List ByteArray → Nat → List UpN → Prop} {fn : FuncId} {cap : Value} {B : World → (Nat → Prop) → Prop} {CL : UpN → SheetV → Prop}

theorem GN.weak (h : GN w0 wx m p X A0 lp z d M0 rs0 n K0 F st e0 D V J L) : GN w0 wx m p X A0 lp z d M0 rs0 n K0 F st False D V J L := by
  obtain ⟨A, P, l, rs, t, ext, hM, hR, hG, hst, hq, hbF, hP, mv, hext, hlo, hj, _⟩ := h.ex
  exact ⟨A, P, l, rs, t, ext, hM, hR, hG, hst, hq, hbF, hP, mv, hext, hlo, hj, fun x => x.elim⟩

set_option maxHeartbeats 800000 in
set_option maxRecDepth 20000 in
theorem gn_step {to' : Nat} (hclo : Clo m p X d n fn cap B CL) (hJ : JOk n J) (hB : ∀ A, (∀ k, A k → A0 k ∨ w0.heap.size ≤ k) → Moves A0 A w0 wx → B wx A) (hz : z ≤ 1000000) (h : GN w0 wx m p X A0 lp z d M0 rs0 n K0 F st e0 D V J (x :: xs)) (hF : F ≤ 4194304) (hto : to' < x.u.pl) (hD : DoesN D V x.r.page x.inv V') (hCL : ∀ s : SheetV, s.Fits → s.num = x.r.page → SameC s (V x.r.page) → CL x s) :
    Calls Tryz.prog 100 #[.pointer (some ⟨m, 0, none⟩), .int .i64 n] wx (RollNx m n to' fn cap fun w' => GN w0 w' m p X A0 lp z d M0 rs0 n K0 F st False D V' J xs) := by
  obtain ⟨A, P, l, rs, t0, ext, hM, hR, hG0, hst0, hq0, hbF, hP, mv, hext, hlo, hj0, _⟩ := h.ex
  have hBx : B wx A := hB A mv.2 mv
  have hb : l.bytes.length + l.kept ≤ 4194304 := by omega
  obtain ⟨⟨path, hpath, hpr⟩, hpl0, hrin, hprev, hup, hch⟩ := hG0.chain
  have hnn := hG0.nn
  have hsm := hup.small
  have hlast0 := hG0.last
  have hnx0 := hG0.next
  have hfal := hG0.chain.falls
  have hplle : x.u.pl ≤ t0.next := hpath.le
  have hcnt := hR.count
  have hst' := hR.len
  have hG := hG0.at
  have hdl : t0.debts.length ≤ 1000000 := by rw [hG0.debts, debts_length]; have h5 := room_len (upn (x :: xs)); have h6 := hG0.kept; omega
  have hrise : RisesD t0.debts := by rw [hG0.debts]; exact debts_rise hfal
  have hNX := next_path hM n (by omega) (by omega) (MgG.set_get M0 n t0) x.u.pl path hpath hpl0 hrise hdl x.r hup.kind hup.undo (fun y hy wz bz => read_rec (hM.below bz) hR (by omega) (hpr y hy).1 (hpr y hy).2) (fun wz bz => read_rec (hM.below bz) hR (by omega) hrin hup.ok)
  have htt : ({ t0 with next := x.u.pl, debts := t0.debts.take (standN t0.debts x.u.pl) } : MtV) = { t0 with next := x.u.pl } := by
    have e0 : standN (debtsOf (upn (x :: xs))) x.u.pl = (upn (x :: xs)).length := stand_line hfal (Nat.le_refl _)
    rw [hG0.debts, e0, take_all, ← hG0.debts]
  obtain ⟨t, Ht⟩ : ∃ t, Hid (({ t0 with next := x.u.pl } : MtV) = t) := ⟨_, rfl⟩
  rw [htt, MgG.set_set, Ht.out] at hNX
  rw [Ht.out] at hG
  have hst : t.state = st := by rw [← Ht.out]; exact hst0
  have hq : l.kept = K0 + t.kept := by rw [← Ht.out]; exact hq0
  have hj : J rs t.last (x :: xs) := by rw [← Ht.out]; exact hj0
  have hnx : t.next = x.u.pl := by rw [← Ht.out]
  have hlast := hG.last
  have hk : roomSum (upn xs) + (197 + x.u.S.size + x.u.old.size) + cOf t.state ≤ t.kept := hG.kept
  have hdl1 : t.debts.length ≤ 1000000 := by rw [← Ht.out]; exact hdl
  have hrise1 : RisesD t.debts := by rw [← Ht.out]; exact hrise
  have hcs := cOf_le t.state
  clear htt hst0 hq0 hlast0 hdl hrise hj0
  refine hNX.mono ?_
  rintro e w1 ⟨⟨ta, da, tc, dc, rfl⟩, A1, g1, mv1⟩
  refine ⟨⟨x.r, ta, da, tc, dc, x.u.pl, rfl, hto, ⟨fun wy hwy => ?_⟩⟩⟩
  have by1 : Below w1.heap.size w1 wy := by rw [hwy]; exact (Below.refl _ _).alloc (Nat.le_refl _) _
  have xy : BlkR wy w1.heap.size (x.r.cells ta da tc dc) 54 := by rw [hwy]; exact Blk.made _ _ _
  have gy := g1.below by1
  have hB1 : B w1 A1 := hclo.moves hBx mv1
  have hBy : ∀ wz, Below w1.heap.size w1 wz → B wz A1 := fun wz bz => hclo.moves hB1 (Moves.of_kept (Kept.of_below bz))
  obtain ⟨f, hfF, hfit, hnum, hsame⟩ := hP.at' x.r.page hD.dom
  obtain ⟨q, hdo, hqn, hqs, hqsame, hqfit⟩ := hD.do' f.sh hfit hnum hsame
  obtain ⟨cz, Hcz⟩ : ∃ cz, Hid ((compS t n x.r.page x.inv x.r.prev).size = cz) := ⟨_, rfl⟩
  have csz := Hcz.out
  have hcl := hup.clen t x.r.prev
  rw [csz] at hcl
  have hro := hup.clr t x.r.prev (by omega) (by omega)
  have hrl : cz ≤ 8192 := by rw [← csz]; show (encR _).toArray.size ≤ _; rw [List.size_toArray]; exact hro.len
  have hpp : plOf (upn xs) ≤ x.r.prev := hch.plOf
  have est : standN t.debts x.r.prev = (upn xs).length := by
    rw [hG.debts]
    unfold standN
    show ((debtsOf (upn xs) ++ [_]).takeWhile _).length = _
    rw [List.takeWhile_append_of_pos (fun q hq => by have := debts_mem hch.falls q hq; simp; omega)]
    have h2 : decide (x.u.pl ≤ x.r.prev) = false := by simp; omega
    simp [List.takeWhile, h2, debts_length]
  have eow : owedN t.debts (standN t.debts x.r.prev) = roomSum (upn xs) := by rw [est, hG.debts]; exact owed_tail x.u (upn xs)
  have ecn : compN t x.r.prev = roomSum (upn xs) + cOf t.state := by
    unfold compN wayN cOf
    rw [hG.begun, if_pos rfl, eow]
    split <;> rfl
  have hlen1 : (upn xs).length < t.debts.length := by rw [hG.debts, debts_length]; show (upn xs).length < (upn xs).length + 1; omega
  have esp := spend_eqs l t (compS t n x.r.page x.inv x.r.prev) (compN t x.r.prev) (by rw [csz, ecn]; omega)
  have hqf := hqfit (l.bytes.length + 1) (by omega)
  have hcomp : ∀ wz, Below w1.heap.size w1 wz → Calls Tryz.prog 47 #[.pointer (some ⟨m, 0, none⟩), .int .i64 n, .int .u32 x.r.page, x.inv.val, .int .u64 x.r.prev] wz fun e w' => e = .returned (.tuple #[.int .u64 ((l.bytes.length + 1 : Nat) : Int), .int .i64 0]) ∧ ∃ A', MSys w' m p X A' (putP P { q with lsn := l.bytes.length + 1 }) (spendL l t (compS t n x.r.page x.inv x.r.prev) (compN t x.r.prev)) d (M0.set n (compT l t (compS t n x.r.page x.inv x.r.prev) x.r.prev)) ∧ Moves A1 A' wz w' := fun wz bz => by
    have := comp_ok (g1.below bz) n (by omega) (by omega) (MgG.set_get M0 n t) x.r.page x.inv x.r.prev (fun wq => hro.ok wq none none (.inl rfl) (.inl rfl)) hro.may (by rw [csz]; omega) hup.pg.1 hup.pg.2 hfF hfit hup.iok hup.chk hdo hqf hqn hqs (by have := hP.z; omega) (by omega) hrise1 hdl1 (by rw [est]; right; exact hlen1) (by rw [eow]; omega) (by omega) (by rw [csz]; omega) (by rw [csz, ecn]; omega) (.inl (by rw [csz, ecn]; omega))
    rw [MgG.set_set] at this
    exact this
  have hask := ask_any gy n x.r ta da tc dc fn cap (putP P { q with lsn := l.bytes.length + 1 }) (spendL l t (compS t n x.r.page x.inv x.r.prev) (compN t x.r.prev)) (M0.set n (compT l t (compS t n x.r.page x.inv x.r.prev) x.r.prev)) (fun wz => hclo.enter _ wz) (fun wz bz => by
    have bz1 := below_chain by1 bz
    exact hclo.call x f ta da tc dc (l.bytes.length + 1) _ _ _ (g1.below bz1) (hBy wz bz1) hup hfF hfit hnum (hCL f.sh hfit hnum hsame) (fun wq bq => hcomp wq (below_chain bz1 bq)))
  refine hask.mono ?_
  rintro e w2 ⟨rfl, A2, g2, mv2⟩
  have hbox : ¬ A1 w1.heap.size := fun x => by have := g1.lt _ x; omega
  refine ⟨rfl, xy.same (mv2.off xy.lt hbox).1, ?_⟩
  have htn : (compT l t (compS t n x.r.page x.inv x.r.prev) x.r.prev).next = x.r.prev := rfl
  have hPS := pass_other g2 n (by omega) (by omega) (MgG.set_get M0 n _) x.u.pl x.r.prev (by rw [htn]; omega)
  refine hidx (hPS.mono ?_)
  rintro e w3 ⟨rfl, rfl⟩
  have htG : compT l t (compS t n x.r.page x.inv x.r.prev) x.r.prev = { t with kept := t.kept - (cz + 12), last := l.bytes.length + 1, next := x.r.prev, debts := debtsOf (upn xs) } := by
    unfold compT
    rw [esp.2, est, hG.debts, csz]
    show ({ t with kept := _, last := _, next := _, debts := (debtsOf (x.u :: upn xs)).take (upn xs).length } : MtV) = _
    rw [take_tail]
  have hlen' : (spendL l t (compS t n x.r.page x.inv x.r.prev) (compN t x.r.prev)).bytes.length = l.bytes.length + (cz + 12) := by
    rw [esp.1]; show (putG l _).bytes.length = _; rw [putG_len, csz]
  have hkp' : (spendL l t (compS t n x.r.page x.inv x.r.prev) (compN t x.r.prev)).kept = l.kept - (cz + 12) := by
    rw [esp.1]; show l.kept - _ = _; rw [csz]
  have hR' : RecsAt (spendL l t (compS t n x.r.page x.inv x.r.prev) (compN t x.r.prev)) (rs ++ [compS t n x.r.page x.inv x.r.prev]) := by
    rw [esp.1]
    have := hR.snoc (compS t n x.r.page x.inv x.r.prev)
    exact ⟨this.starts, this.long, this.text⟩
  refine ⟨rfl, ⟨A2, _, _, rs ++ [compS t n x.r.page x.inv x.r.prev], _, ext ++ [compS t n x.r.page x.inv x.r.prev], g2, hR', ?_, hst, ?_, ?_, hP.put hfF hqn hqf hqsame hD.oth, (mv.trans mv1).trans ((Moves.of_kept (Kept.of_below by1)).trans mv2), by rw [hext, List.append_assoc], ?_, ?_, fun x => x.elim⟩⟩
  · exact hG.comp hR (by omega) csz htG (by rw [hlen']; omega)
  · rw [hkp', htG]; show _ = K0 + (t.kept - _); omega
  · rw [hlen', hkp']; omega
  · exact ⟨hlo.half, by rw [hlen']; have := hlo.fl; show l.flushed ≤ _; omega, by rw [hlen']; omega, hlo.at'⟩
  · rw [htG]
    exact hJ.comp (recC t n x.r.page x.inv x.r.prev) hR hj hup hro rfl rfl rfl

theorem gn_end {to' : Nat} (h : GN w0 wx m p X A0 lp z d M0 rs0 n K0 F st e0 D V J (x :: xs)) (hF : F ≤ 4194304) (hto : x.u.pl ≤ to') :
    Calls Tryz.prog 100 #[.pointer (some ⟨m, 0, none⟩), .int .i64 n] wx (RollEnd to' fun w' => GN w0 w' m p X A0 lp z d M0 rs0 n K0 F st True D V J (x :: xs)) := by
  obtain ⟨A, P, l, rs, t0, ext, hM, hR, hG0, hst0, hq0, hbF, hP, mv, hext, hlo, hj, _⟩ := h.ex
  have hb : l.bytes.length + l.kept ≤ 4194304 := by omega
  obtain ⟨⟨path, hpath, hpr⟩, hpl0, hrin, hprev, hup, hch⟩ := hG0.chain
  have hnn := hG0.nn
  have hnx0 := hG0.next
  have hfal := hG0.chain.falls
  have hplle : x.u.pl ≤ t0.next := hpath.le
  have hdl : t0.debts.length ≤ 1000000 := by rw [hG0.debts, debts_length]; have h5 := room_len (upn (x :: xs)); have h6 := hG0.kept; omega
  have hrise : RisesD t0.debts := by rw [hG0.debts]; exact debts_rise hfal
  have hNX := next_path hM n (by omega) (by omega) (MgG.set_get M0 n t0) x.u.pl path hpath hpl0 hrise hdl x.r hup.kind hup.undo (fun y hy wz bz => read_rec (hM.below bz) hR (by omega) (hpr y hy).1 (hpr y hy).2) (fun wz bz => read_rec (hM.below bz) hR (by omega) hrin hup.ok)
  have htt : ({ t0 with next := x.u.pl, debts := t0.debts.take (standN t0.debts x.u.pl) } : MtV) = { t0 with next := x.u.pl } := by
    have e0 : standN (debtsOf (upn (x :: xs))) x.u.pl = (upn (x :: xs)).length := stand_line hfal (Nat.le_refl _)
    rw [hG0.debts, e0, take_all, ← hG0.debts]
  rw [htt, MgG.set_set] at hNX
  refine hNX.mono ?_
  rintro e w1 ⟨⟨ta, da, tc, dc, rfl⟩, A1, g1, mv1⟩
  have by1 : Below w1.heap.size w1 (w1.alloc (.cells (x.r.cells ta da tc dc) 54)) := (Below.refl _ _).alloc (Nat.le_refl _) _
  exact ⟨⟨_, ta, da, tc, dc, x.u.pl, rfl, hto, ⟨A1, P, l, rs, _, ext, g1.below by1, hR, hG0.at, hst0, hq0, hbF, hP, (mv.trans mv1).trans (Moves.of_kept (Kept.of_below by1)), hext, hlo, hj, fun _ => rfl⟩⟩⟩

theorem gn_end0 {to' : Nat} (h : GN w0 wx m p X A0 lp z d M0 rs0 n K0 F st e0 D V J []) (hF : F ≤ 4194304) :
    Calls Tryz.prog 100 #[.pointer (some ⟨m, 0, none⟩), .int .i64 n] wx (RollEnd to' fun w' => GN w0 w' m p X A0 lp z d M0 rs0 n K0 F st True D V J []) := by
  obtain ⟨A, P, l, rs, t0, ext, hM, hR, hG0, hst0, hq0, hbF, hP, mv, hext, hlo, hj, _⟩ := h.ex
  have hb : l.bytes.length + l.kept ≤ 4194304 := by omega
  obtain ⟨path, hpath, hpr⟩ := hG0.chain
  have hnn := hG0.nn
  have hd : t0.debts = [] := hG0.debts
  have hNX := next_path0 hM n (by omega) (by omega) (MgG.set_get M0 n t0) path hpath (by rw [hd]; exact fun i j hj => absurd hj (Nat.not_lt_zero _)) (by rw [hd]; simp) (fun y hy wz bz => read_rec (hM.below bz) hR (by omega) (hpr y hy).1 (hpr y hy).2)
  have htt : ({ t0 with next := 0, debts := t0.debts.take (standN t0.debts 0) } : MtV) = { t0 with next := 0 } := by
    rw [hd]
    show ({ t0 with next := 0, debts := [] } : MtV) = _
    rw [← hd]
  rw [htt, MgG.set_set] at hNX
  refine hNX.mono ?_
  rintro e w1 ⟨rfl, A1, g1, mv1⟩
  have by1 : Below w1.heap.size w1 (w1.alloc (.cells (rec0.cells none none 0 0) 54)) := (Below.refl _ _).alloc (Nat.le_refl _) _
  have hG1 : TxN rs l.bytes.length { t0 with next := 0 } n [] := ⟨GTo.refl _ _ _, hG0.lchain, hG0.tx, hG0.debts, hG0.kept, hG0.last, Nat.zero_le _, hG0.begun, hnn⟩
  exact ⟨⟨rec0, none, none, 0, 0, 0, rfl, Nat.zero_le _, ⟨A1, P, l, rs, _, ext, g1.below by1, hR, hG1, hst0, hq0, hbF, hP, (mv.trans mv1).trans (Moves.of_kept (Kept.of_below by1)), hext, hlo, hj, fun _ => rfl⟩⟩⟩

end

end Go.Proofs.YtdhphbokkmofaaaGreat

namespace Go.Proofs.YtdhphbokkmofaaaGreat
open Go.RowKit Go.Sort

section
variable {w w0 wx wy : World} {m p lp z : Nat} {X : Int → Nat} {A A0 : Nat → Prop} {P : PG} {l : LG} {d : DG} {M M0 : MgG} {rs rs0 : List ByteArray} {t : MtV} {n : Nat} {L xs : List UpN} {x : UpN} {K0 F N : Nat} {st : Int} {e0 : Prop} {D : Nat → Prop} {V V' : Nat → SheetV} {J : List ByteArray → Nat → List UpN → Prop} {fn : FuncId} {cap : Value} {B : World → (Nat → Prop) → Prop} {CL : UpN → SheetV → Prop}

theorem GN.re (h : GN w0 wx m p X A0 lp z d M0 rs0 n K0 F st e0 D V J L) : ∃ A rs, GN wx wx m p X A lp z d M0 rs n K0 F st e0 D V J L ∧ Moves A0 A w0 wx ∧ (∀ k, A k → k < wx.heap.size) ∧ ∃ ext, rs = rs0 ++ ext := by
  obtain ⟨A, P, l, rs, t, ext, hM, hR, hG, hst, hq, hbF, hP, mv, hext, hlo, hj, he⟩ := h.ex
  exact ⟨A, rs, ⟨A, P, l, rs, t, [], hM, hR, hG, hst, hq, hbF, hP, Moves.refl _ _, by rw [List.append_nil], hlo, hj, he⟩, mv, hM.lt, ext, hext⟩

theorem GN.below (h : GN w0 wx m p X A0 lp z d M0 rs0 n K0 F st e0 D V J L) (b : Below wx.heap.size wx wy) : GN w0 wy m p X A0 lp z d M0 rs0 n K0 F st e0 D V J L := by
  obtain ⟨A, P, l, rs, t, ext, hM, hR, hG, hst, hq, hbF, hP, mv, hext, hlo, hj, he⟩ := h.ex
  exact ⟨A, P, l, rs, t, ext, hM.below b, hR, hG, hst, hq, hbF, hP, mv.trans (Moves.of_kept (Kept.of_below b)), hext, hlo, hj, he⟩

theorem GN.grown (h : GN wx wx m p X A lp z d M0 rs0 n K0 F st e0 D V J L) (hs : ∀ k, A k → wy.heap[k]? = wx.heap[k]?) (hz : wx.heap.size ≤ wy.heap.size) : GN wy wy m p X A lp z d M0 rs0 n K0 F st e0 D V J L := by
  obtain ⟨A', P, l, rs, t, ext, hM, hR, hG, hst, hq, hbF, hP, mv, hext, hlo, hj, he⟩ := h.ex
  have hA : ∀ k, A' k → A k := fun k x => by
    rcases mv.2 k x with y | y
    · exact y
    · have := hM.lt k x; omega
  exact ⟨A', P, l, rs, t, ext, hM.same (fun k x => hs k (hA k x)) hz, hR, hG, hst, hq, hbF, hP, ⟨(Moves.refl A wy).1, fun k x => .inl (hA k x)⟩, hext, hlo, hj, he⟩

theorem GN.from (h : GN wy w m p X A lp z d M0 rs0 n K0 F st e0 D V J L) (mv : Moves A0 A w0 wy) {rs1 : List ByteArray} (hr : ∃ ext, rs0 = rs1 ++ ext) : GN w0 w m p X A0 lp z d M0 rs1 n K0 F st e0 D V J L := by
  obtain ⟨A', P, l, rs, t, ext, hM, hR, hG, hst, hq, hbF, hP, mv', hext, hlo, hj, he⟩ := h.ex
  obtain ⟨e1, rfl⟩ := hr
  exact ⟨A', P, l, rs, t, e1 ++ ext, hM, hR, hG, hst, hq, hbF, hP, mv.trans mv', by rw [hext, List.append_assoc], hlo, hj, he⟩

theorem gn_log (hJ : JOk n J) (h : GN w0 w m p X A0 lp z d M0 rs0 n K0 F 1 e0 D V J L) (c : ChgV) (S old : ByteArray) (inv : OpV) (hup : ∀ last pl, last < 18446744073709551616 → UpOk n ⟨⟨pl, S, old⟩, recN n last c, inv⟩) (hD : DoesN D V c.page c.op V') (hco : c.op.Ok) (hcc : chkB c.op = true) (hz : z ≤ 1000000) (hF : F + 234 + 2 * (S.size + old.size) ≤ 4194304) :
    Calls Tryz.prog 75 #[.pointer (some ⟨m, 0, none⟩), .int .i64 n, .agg c.cells] w fun e w' => ∃ (pl prev : Nat), e = .returned (.tuple #[.int .u64 pl, .int .i64 0]) ∧ placeOf rs0 rs0.length ≤ pl ∧ GN w0 w' m p X A0 lp z d M0 rs0 n K0 (F + 234 + 2 * (S.size + old.size)) 1 True D V' J (⟨⟨pl, S, old⟩, recN n prev c, inv⟩ :: L) := by
  obtain ⟨A, P, l, rs, t, ext, hM, hR, hG, hst, hq, hbF, hP, mv, hext, hlo, hj, _⟩ := h.ex
  have hlast := hG.last
  have hnn := hG.nn
  have hcnt := hR.count
  have hst' := hR.len
  have hu := hup t.last (l.bytes.length + 1) (by omega)
  have hsm := hu.small
  have hsm' : S.size + old.size ≤ 8167 := hsm
  obtain ⟨f, hf, hfit, hnum, hsame⟩ := hP.at' c.page hD.dom
  obtain ⟨q, hdo, hqn, hqs, hqsame, hqfit⟩ := hD.do' f.sh hfit hnum hsame
  have hrec := recU_eq hG.tx c
  have sz : (logS t c).size = 25 + S.size + old.size := by
    show (encR (recU t c)).toArray.size = _
    rw [List.size_toArray, hrec]
    have : S.size + old.size + 25 = (encR (recN n t.last c)).length := hu.len
    omega
  have e1 : standN t.debts (l.bytes.length + 1) = (upn L).length := by rw [hG.debts]; exact stand_line hG.chain.falls (by have := hG.chain.plOf; have := hG.next; omega)
  have hkk := hG.kept
  have hrl := room_len (upn L)
  refine (tlog_ok hM n (by omega) (by omega) (MgG.set_get M0 n t) hst c (fun wx => by rw [hrec]; exact hu.ok.ok wx none none (.inl rfl) (.inl rfl)) (by rw [hrec]; exact hu.ok.may) hu.undo (by rw [sz]; omega) hu.pg.1 hu.pg.2 hf hfit hco hcc hdo (hqfit _ (by omega)) hqn hqs (by have := hP.z; omega) (by omega) (by rw [sz]; omega) (by omega) (by rw [hG.debts]; exact debts_rise hG.chain.falls) (by rw [hG.debts, debts_length]; omega) (by rw [e1, hG.debts, owed_line]; omega)).mono ?_
  rintro e w' ⟨rfl, A', g, mv'⟩
  rw [MgG.set_set] at g
  have hlen : (putG { l with kept := l.kept + ((logS t c).size + 172) } (logS t c)).bytes.length = l.bytes.length + ((logS t c).size + 12) := putG_len _ _
  have hR' : RecsAt (putG { l with kept := l.kept + ((logS t c).size + 172) } (logS t c)) (rs ++ [logS t c]) := RecsAt.snoc (l := { l with kept := l.kept + ((logS t c).size + 172) }) ⟨hR.starts, hR.long, hR.text⟩ _
  have hpl0 : placeOf rs0 rs0.length ≤ l.bytes.length + 1 := by
    have hl := hR.long
    have h3 := placeOf_mono (rs0 ++ ext) (show rs0.length ≤ (rs0 ++ ext).length by simp)
    rw [placeOf_ext rs0 ext _ (Nat.le_refl _)] at h3
    rw [hext] at hl
    omega
  refine ⟨l.bytes.length + 1, t.last, rfl, hpl0, ⟨A', _, _, rs ++ [logS t c], _, ext ++ [logS t c], g, hR', ?_, hst, ?_, ?_, hP.put hf hqn (hqfit _ (by omega)) hqsame hD.oth, mv.trans mv', by rw [hext, List.append_assoc], ?_, ?_, fun _ => rfl⟩⟩
  · exact hG.log hR hst rfl rfl hu (by rw [hlen]; omega)
  · show l.kept + _ = K0 + (t.kept + _); omega
  · rw [hlen]; show _ + (l.kept + _) ≤ _; rw [sz]; omega
  · exact ⟨hlo.half, by rw [hlen]; have := hlo.fl; show l.flushed ≤ _; omega, by rw [hlen, sz]; omega, hlo.at'⟩
  · have := hJ.log (x := ⟨⟨l.bytes.length + 1, S, old⟩, recN n t.last c, inv⟩) hR hj hu rfl rfl
    have e : logS t c = ⟨(encR (recN n t.last c)).toArray⟩ := by show ByteArray.mk (encR (recU t c)).toArray = _; rw [hrec]
    rw [e]
    exact this

theorem gn_roll (to' : Nat) (hclo : Clo m p X d n fn cap B CL) (hJ : JOk n J) (hz : z ≤ 1000000) (h : GN w0 w m p X A0 lp z d M0 rs0 n K0 F st e0 D V J L) (hby : Below w.heap.size w wy) (hB : ∀ A, Moves A0 A w0 w → (∀ k, A k → k < w.heap.size) → B wy A) (hF : F ≤ 4194304) (j : Nat) (hj : j ≤ L.length) (hU : UndN CL D V (L.take j) V') (hover : ∀ i (hi : i < L.length), i < j → to' < L[i].u.pl) (hstop : plOf (upn (L.drop j)) ≤ to') :
    Calls Tryz.prog 41 #[.pointer (some ⟨m, 0, none⟩), .int .i64 n, .int .u64 to', .func (.func fn) #[] #[cap]] wy fun e w' => e = .returned (.int .i64 0) ∧ GN w0 w' m p X A0 lp z d M0 rs0 n K0 F st True D V' J (L.drop j) := by
  obtain ⟨A, rs, hg, mv, hlt, hext⟩ := h.re
  have hBy := hB A mv hlt
  have hgy : GN wy wy m p X A lp z d M0 rs n K0 F st e0 D V J L := hg.grown (fun k x => hby.block k (hlt k x)) hby.size
  have hf : ∃ fp, Calls Tryz.prog 37 #[.pointer (some ⟨m, 0, none⟩), .int .i64 n] wy fun r w' => r = .returned (.tuple #[.pointer (some fp), .int .i64 0]) ∧ wy = w' := by
    obtain ⟨A, P, l, rs, t0, ext, hM, hR, hG0, _⟩ := hgy.ex
    have := hG0.nn
    exact ⟨_, find_yes hM n (by omega) (by omega) (MgG.set_get M0 n t0)⟩
  obtain ⟨fp, hf⟩ := hf
  refine (roll_any m n to' fn cap wy fp j (fun i wx => ∃ Vi, GN wy wx m p X A lp z d M0 rs n K0 F st False D Vi J (L.drop i) ∧ UndN CL D Vi ((L.take j).drop i) V') (fun w' => GN wy w' m p X A lp z d M0 rs n K0 F st True D V' J (L.drop j)) hf ⟨V, hgy.weak, hU⟩ (fun i hi wx hx => ?_) (fun wx hx => ?_)).mono ?_
  · obtain ⟨Vi, hx, hu⟩ := hx
    have hiL : i < L.length := by omega
    have e : L.drop i = L[i] :: L.drop (i + 1) := List.drop_eq_getElem_cons hiL
    have hit : i < (L.take j).length := by rw [List.length_take]; omega
    have e2 : (L.take j).drop i = L[i] :: (L.take j).drop (i + 1) := by rw [List.drop_eq_getElem_cons hit, List.getElem_take]
    rw [e] at hx
    rw [e2] at hu
    obtain ⟨V1, hD, hCL, hu1⟩ := hu
    refine (gn_step hclo hJ (fun A' _ mv' => hclo.moves hBy mv') hz hx hF (hover i hiL hi) hD hCL).mono ?_
    rintro ee ww ⟨r, ta, da, tc, dc, at', h1, h2, ⟨h3⟩⟩
    refine ⟨⟨r, ta, da, tc, dc, at', h1, h2, ⟨fun wq hq => ?_⟩⟩⟩
    refine (h3 wq hq).mono ?_
    rintro e3 w3 ⟨h4, h5, h6⟩
    refine ⟨h4, h5, hidx (h6.out.mono ?_)⟩
    rintro e4 w4 ⟨h7, h8⟩
    exact ⟨h7, V1, h8, hu1⟩
  · obtain ⟨Vi, hx, hu⟩ := hx
    have e0 : (L.take j).drop j = [] := by rw [List.drop_eq_nil_iff, List.length_take]; omega
    rw [e0] at hu
    have hVV : Vi = V' := hu
    rw [hVV] at hx
    cases e : L.drop j with
    | nil => rw [e] at hx; exact gn_end0 hx hF
    | cons y ys =>
      rw [e] at hx hstop
      exact gn_end hx hF hstop
  · rintro e w' ⟨rfl, hg'⟩
    exact ⟨rfl, hg'.from (mv.trans (Moves.of_kept (Kept.of_below hby))) hext⟩

structure GAbN (w0 w' : World) (m p : Nat) (X : Int → Nat) (A0 : Nat → Prop) (lp z : Nat) (d : DG) (M0 : MgG) (rs0 : List ByteArray) (n K0 F : Nat) (D : Nat → Prop) (V : Nat → SheetV) (J : List ByteArray → Nat → List UpN → Prop) : Prop where
  ex : ∃ A P l rs ext last, MSys w' m p X A P l d (M0.gone n) ∧ RecsAt l rs ∧ l.kept = K0 ∧ l.bytes.length + l.kept ≤ F ∧ PgN lp z D P V ∧ Moves A0 A w0 w' ∧ rs = rs0 ++ ext ∧ LOk l d ∧ J rs last []

theorem TxN.endOk {rs : List ByteArray} {l : LG} (h : TxN rs l.bytes.length t n []) (hR : RecsAt l rs) (hq : l.kept = K0 + t.kept) (hb : l.bytes.length + l.kept ≤ 4194304) : EndOk l t := by
  have h3 := h.kept
  have h4 := h.last
  have h5 := hR.count
  have h6 := hR.len
  have h7 := h.tx
  have h8 : roomSum (upn []) = 0 := rfl
  have h9 := cOf_le t.state
  have h10 := h.nn
  exact ⟨by omega, by omega, by omega, by omega, by omega, by omega, .inl (by omega)⟩

theorem TxN.abort (h : TxN rs l.bytes.length t n L) (hR : RecsAt l rs) (hb : l.bytes.length ≤ 4194304) (hst : t.state = 1) {t' : MtV} (ht : t' = { t with kept := t.kept - 25, last := l.bytes.length + 1, state := 3 }) {b' : Nat} (hb' : l.bytes.length + 1 ≤ b') :
    TxN (rs ++ [markS 5 t]) b' t' n L := by
  have hla := h.last
  have hn2 := h.next
  have hnn := h.nn
  have hk := h.kept
  rw [hst] at hk
  have hin : RecIn (rs ++ [markS 5 t]) (l.bytes.length + 1) (recM 5 n t.last) := by
    have : markS 5 t = ⟨(encR (recM 5 n t.last)).toArray⟩ := by unfold markS; rw [h.tx]
    rw [this]
    exact RecIn.last hR _
  subst ht
  refine ⟨h.chain.snoc _, GChainN.over (a := t.last) hin (RecOk.mark n t.last 5 (by omega) hnn (by omega)) (fun e => by have : (5 : Int) = 1 := e.1; omega) rfl (by omega) (h.lchain.snoc _), h.tx, h.debts, ?_, hb', ?_, h.begun, hnn⟩
  · show roomSum (upn L) + cOf 3 ≤ t.kept - 25
    have e1 : cOf 1 = 50 := rfl
    have e3 : cOf 3 = 25 := rfl
    omega
  · show t.next ≤ b'; omega

theorem mark_eq {t : MtV} {n : Nat} (h : t.tx = n) (k : Int) : markS k t = ⟨(encR (recM k n t.last)).toArray⟩ := by unfold markS; rw [h]

theorem gn_abort (hclo : Clo m p X d n fn cap B CL) (hJ : JOk n J) (hz : z ≤ 1000000) (h : GN w0 w m p X A0 lp z d M0 rs0 n K0 F 1 e0 D V J L) (hby : Below w.heap.size w wy) (hB : ∀ A, Moves A0 A w0 w → (∀ k, A k → k < w.heap.size) → B wy A) (hF : F ≤ 4194304) (hU : UndN CL D V L V') :
    Calls Tryz.prog 10 #[.pointer (some ⟨m, 0, none⟩), .int .i64 n, .func (.func fn) #[] #[cap]] wy fun e w' => e = .returned (.int .i64 0) ∧ GAbN w0 w' m p X A0 lp z d M0 rs0 n K0 F D V' J := by
  obtain ⟨A, P, l, rs, t, ext, hM0, hR, hG, hst, hq, hbF, hP, mv0, hext, hlo, hj, _⟩ := h.ex
  have hBy : B wy A := hB A mv0 hM0.lt
  have hM := hM0.below hby
  have mv : Moves A0 A w0 wy := mv0.trans (Moves.of_kept (Kept.of_below hby))
  have hlast := hG.last
  have hnx := hG.next
  have hcnt := hR.count
  have hst' := hR.len
  have htx := hG.tx
  have hnn := hG.nn
  have hk := hG.kept
  have ec : cOf t.state = 50 := by rw [hst]; rfl
  have est : standN t.debts t.next = (upn L).length := by rw [hG.debts]; exact stand_line hG.chain.falls hG.chain.plOf
  have eow : owedN t.debts (standN t.debts t.next) = roomSum (upn L) := by rw [est, hG.debts]; exact owed_line (upn L)
  have eab : abN t = roomSum (upn L) + 25 := by
    unfold abN wayN
    rw [hG.begun, if_pos rfl, if_neg (by decide), eow]
  have sz := markS_size 5 t (by omega)
  have esp := spend_eqs l t (markS 5 t) (abN t) (by rw [sz, eab]; omega)
  have eT : abT l t = { t with kept := t.kept - 25, last := l.bytes.length + 1, state := 3 } := by unfold abT; rw [esp.2, sz]
  have eLb : (abL l t).bytes.length = l.bytes.length + 25 := by unfold abL; rw [esp.1]; show (putG l _).bytes.length = _; rw [putG_len, sz]
  have eLk : (abL l t).kept = l.kept - 25 := by unfold abL; rw [esp.1, sz]
  have hR1 : RecsAt (abL l t) (rs ++ [markS 5 t]) := by
    have := hR.snoc (markS 5 t)
    unfold abL
    rw [esp.1]
    exact ⟨this.starts, this.long, this.text⟩
  have hG1 : TxN (rs ++ [markS 5 t]) (abL l t).bytes.length (abT l t) n L := hG.abort hR (by omega) hst eT (by rw [eLb]; omega)
  have hloA : LOk (abL l t) d := by
    refine ⟨?_, ?_, by rw [eLb]; omega, ?_⟩
    · unfold abL; rw [esp.1]; exact hlo.half
    · rw [eLb]; have := hlo.fl; unfold abL; rw [esp.1]; show l.flushed ≤ _; omega
    · unfold abL; rw [esp.1]; exact hlo.at'
  have hj1 : J (rs ++ [markS 5 t]) (abT l t).last L := by
    rw [eT, mark_eq htx]
    exact hJ.mark (recM 5 n t.last) hR hj (RecOk.mark n t.last 5 (by omega) hnn (by omega)) (by show (3 : Int) < 5; decide) rfl
  have hrl := room_len (upn L)
  refine (abort_any (Z := fun P2 l2 d2 M2 t2 => d2 = d ∧ M2 = M0.set n t2 ∧ ∃ rs2 ext2, RecsAt l2 rs2 ∧ TxN rs2 l2.bytes.length t2 n [] ∧ l2.kept = K0 + t2.kept ∧ l2.bytes.length + l2.kept ≤ F ∧ PgN lp z D P2 V' ∧ rs2 = rs0 ++ ext2 ∧ LOk l2 d ∧ J rs2 t2.last []) hM n (by omega) (by omega) (MgG.set_get M0 n t) hst fn cap (by omega) (by omega) (by rw [hG.debts]; exact debts_rise hG.chain.falls) (by rw [hG.debts, debts_length]; omega) (by rw [eow]; omega) (by omega) (by omega) (by omega) (by rw [eab]; omega) (.inl (by rw [eab]; omega)) (fun wx A1 g1 mv1 => ?_)).mono ?_
  · rw [MgG.set_set] at g1
    have hGS : GN wx wx m p X A1 lp z d M0 rs0 n K0 F 3 False D V J L := ⟨A1, P, _, _, _, ext ++ [markS 5 t], g1, hR1, hG1, by rw [eT], by rw [eLk, eT]; show _ = K0 + (t.kept - 25); omega, by rw [eLb, eLk]; omega, hP, Moves.refl _ _, by rw [hext, List.append_assoc], hloA, hj1, fun x => x.elim⟩
    have hro := gn_roll (w0 := wx) (A0 := A1) 0 hclo hJ hz hGS (Below.refl _ _) (fun A' mv' _ => hclo.moves (hclo.moves hBy mv1) mv') hF L.length (Nat.le_refl _) (by rw [List.take_length]; exact hU) (fun i hi _ => (hG.chain.ok _ (List.getElem_mem hi)).2) (by rw [List.drop_length]; exact Nat.le_refl _)
    rw [List.drop_length] at hro
    refine hro.mono ?_
    rintro e w' ⟨rfl, hS⟩
    obtain ⟨A2, P2, l2, rs2, t2, ext2, g2, hR2, hG2, hst2, hq2, hb2, hP2, mv2, hext2, hlo2, hj2, _⟩ := hS.ex
    exact ⟨rfl, P2, l2, d, M0.set n t2, t2, ⟨A2, g2, mv2⟩, MgG.set_get M0 n t2, hG2.endOk hR2 hq2 (by omega), rfl, rfl, rs2, ext2, hR2, hG2, hq2, hb2, hP2, hext2, hlo2, hj2⟩
  · rintro e w' ⟨rfl, hA⟩
    obtain ⟨A', P2, l2, d2, M2, t2, g2, mv2, _, _, rfl, rfl, rs2, ext2, hR2, hG2, hq2, hb2, hP2, hext2, hlo2, hj2⟩ := hA.ex
    have h3 := hG2.kept
    have h9 := cOf_le t2.state
    have h10 := hG2.last
    have h11 := hG2.nn
    obtain ⟨a1, a2, a3, a4⟩ := TxG.ended (F := F) (show 25 ≤ t2.kept by omega) hR2 hq2 hb2
    rw [MgG.set_gone] at g2
    refine ⟨rfl, ⟨A', P2, _, _, ext2 ++ [markS 6 t2], l2.bytes.length + 1, g2, a1, a2, a4, hP2, mv.trans mv2, by rw [hext2, List.append_assoc], ended_lok (show 25 ≤ t2.kept by omega) hlo2 a3 (by omega), ?_⟩⟩
    rw [mark_eq hG2.tx]
    exact hJ.mark (recM 6 n t2.last) hR2 hj2 (RecOk.mark n t2.last 6 (by omega) h11 (by omega)) (by show (3 : Int) < 6; decide) rfl

end

end Go.Proofs.YtdhphbokkmofaaaGreat
