/-
  A transaction's changes of slots of some pages, with records in between that are not taken back: where undoing goes, and what is owed; plain data.
  A transaction whose chain has records in between: Log, Rollback to a place, Abort.
  .. Rollback to a place, Log, Top, Abort, Commit of such a transaction.
  .. Abort, Commit, Top, Save of such a transaction.
  A transaction with a savepoint: Log, Save, Top; what TxnTops asks for.
  The closures of girderlaw09.TxnTops; its mathematics.
-/
import Derived.Test.YtdokafldallnkaaGreatTxNextPJ
import Derived.Test.YtdokafldallnkaaGreatTxLineJ
import Derived.Test.YtdokafldallnkaaGreatTxNewJ
import Derived.Test.YtdokafldallnkaaGreatWalP1J
namespace Go.Proofs.YtdokafldallnkaaGreat
open Go.RowKit Go.Sort
set_option linter.unusedVariables false
set_option linter.unusedSimpArgs false

/-- A record stands in the log. -/
def RecIn (rs : List ByteArray) (pl : Nat) (r : RecV) : Prop := ∃ i, i < rs.length ∧ placeOf rs i = pl ∧ rs.getD i ⟨#[]⟩ = ⟨(encR r).toArray⟩

theorem RecIn.snoc {rs : List ByteArray} {pl : Nat} {r : RecV} (h : RecIn rs pl r) (x : ByteArray) : RecIn (rs ++ [x]) pl r := by
  obtain ⟨i, h1, h2, h3⟩ := h
  exact ⟨i, by simp; omega, by rw [placeOf_snoc rs x i (by omega)]; exact h2, by rw [← h3, List.getD_eq_getElem?_getD, List.getD_eq_getElem?_getD, List.getElem?_append_left h1]⟩

theorem RecIn.last {l : LG} {rs : List ByteArray} (h : RecsAt l rs) (r : RecV) : RecIn (rs ++ [⟨(encR r).toArray⟩]) (l.bytes.length + 1) r :=
  ⟨rs.length, by simp, by rw [placeOf_snoc rs _ _ (Nat.le_refl _)]; exact h.long.symm, by rw [getD_last]⟩

/-- It can be read as a record of the transaction n. -/
structure RecOk (n : Nat) (r : RecV) : Prop where
  may : mayR r = true
  wide : r.Wide
  prev : r.prev < 18446744073709551616
  next : r.next < 18446744073709551616
  page : r.page < 4294967296
  rpage : r.rpage < 4294967296
  len : (encR r).length ≤ 8192
  ok : ∀ wx ta da, TxsAt wx ta r.txs → DisAt wx da r.dirty → r.Ok wx ta da
  tx : r.tx = n

theorem RecOk.line (n pg prev : Nat) (u : UpV) (hn : n ≤ 2147483647) (h1 : 1 ≤ pg) (h2 : pg ≤ 2048) (hv : prev < 18446744073709551616) (hS : u.S.size ≤ 512) (ho : u.old.size ≤ 512) : RecOk n (lineR n pg prev u) :=
  ⟨lineR_may n pg prev u hn (by omega) hS ho, ⟨fun i hi => by simp [lineR] at hi, fun i hi => by simp [lineR] at hi⟩, hv, by show (0 : Nat) < _; omega, by show pg < _; omega, by show (0 : Nat) < _; omega, by rw [lineR_len n pg prev u hS ho]; omega, fun wx ta da a b => lineR_ok n pg prev u hn h2 hv hS ho wx ta da a b, rfl⟩

theorem RecOk.comp (t : MtV) (n pg : Nat) (u : UpV) (next : Nat) (hn : n ≤ 2147483647) (h1 : 1 ≤ pg) (h2 : pg ≤ 2048) (hl : t.last < 18446744073709551616) (hx : next < 18446744073709551616) (hS : u.S.size ≤ 512) (ho : u.old.size ≤ 512) : RecOk n (recC t n pg (setO u.old u.S) next) := by
  refine ⟨recC_may t n pg u next hn (by omega) hS ho, ⟨fun i hi => by simp [recC] at hi, fun i hi => by simp [recC] at hi⟩, hl, hx, by show pg < _; omega, by show (0 : Nat) < _; omega, by rw [recC_len t n pg u next hS ho]; omega, fun wx ta da a b => ?_, rfl⟩
  have := recC_ok t n pg u next hn h2 hl hx hS ho wx
  exact ⟨this.kind, this.tx, this.prev, this.next, this.page, this.op, this.undo, this.index, this.key, this.rpage, this.rslot, this.tlen, this.dlen, a, b⟩

theorem RecOk.top (t : MtV) (n next : Nat) (hn : n ≤ 2147483647) (hl : t.last < 18446744073709551616) (hx : next < 18446744073709551616) : RecOk n (recT t n next) := by
  refine ⟨recT_may t n next ⟨by omega, by omega⟩, ⟨fun i hi => by simp [recT] at hi, fun i hi => by simp [recT] at hi⟩, hl, hx, by show (0 : Nat) < _; omega, by show (0 : Nat) < _; omega, ?_, fun wx ta da a b => recT_ok t n next ⟨by omega, by omega⟩ hl hx wx ta da a b, rfl⟩
  have := topS_size t n next
  have e : (topS t n next).size = (encR (recT t n next)).length := by show (encR _).toArray.size = _; rw [List.size_toArray]
  omega

/-- From one place undoing comes to another one. -/
def GTo (rs : List ByteArray) (n a e : Nat) : Prop := ∃ path, PathTo a path e ∧ ∀ x ∈ path, RecIn rs x.1 x.2 ∧ RecOk n x.2

theorem PathTo.le : ∀ {path : List (Nat × RecV)} {a e : Nat}, PathTo a path e → e ≤ a
  | [], a, e, h => by have : a = e := h; omega
  | x :: ps, a, e, h => by
    obtain ⟨h1, _, _, h4, h5⟩ := h
    have := PathTo.le h5
    omega

theorem GTo.le {rs : List ByteArray} {n a e : Nat} (h : GTo rs n a e) : e ≤ a := by
  obtain ⟨path, h1, _⟩ := h
  exact h1.le

theorem GTo.refl (rs : List ByteArray) (n a : Nat) : GTo rs n a a := ⟨[], rfl, fun x hx => by simp at hx⟩

theorem GTo.snoc {rs : List ByteArray} {n a e : Nat} (h : GTo rs n a e) (x : ByteArray) : GTo (rs ++ [x]) n a e := by
  obtain ⟨path, h1, h2⟩ := h
  exact ⟨path, h1, fun y hy => ⟨(h2 y hy).1.snoc x, (h2 y hy).2⟩⟩

theorem GTo.over {rs : List ByteArray} {n a e : Nat} {pl : Nat} {r : RecV} (h : GTo rs n a e) (hr : RecIn rs pl r) (ho : RecOk n r) (hu : ¬ (r.kind = 1 ∧ r.undo ≠ 0)) (hl : leadN r = a) (hlt : a < pl) : GTo rs n pl e := by
  obtain ⟨path, h1, h2⟩ := h
  refine ⟨(pl, r) :: path, ⟨rfl, by show pl ≠ 0; omega, hu, by show leadN r < pl; omega, ?_⟩, fun y hy => ?_⟩
  · show PathTo (leadN r) path e
    rw [hl]; exact h1
  · rcases List.mem_cons.1 hy with rfl | hy
    · exact ⟨hr, ho⟩
    · exact h2 y hy

/-- A change of a slot of a page, and where the transaction's record ahead of it stands. -/
structure UpG where
  u : UpV
  pg : Nat
  prev : Nat

def GChain (rs : List ByteArray) (n : Nat) : Nat → List UpG → Prop
  | a, [] => GTo rs n a 0
  | a, x :: xs => GTo rs n a x.u.pl ∧ x.u.pl ≠ 0 ∧ RecIn rs x.u.pl (lineR n x.pg x.prev x.u) ∧ x.prev < x.u.pl ∧ (1 ≤ x.pg ∧ x.pg ≤ 2048) ∧ x.u.S.size ≤ 400 ∧ x.u.old.size ≤ 400 ∧ GChain rs n x.prev xs

def ups (L : List UpG) : List UpV := L.map UpG.u

theorem GChain.snoc {rs : List ByteArray} {n : Nat} (x : ByteArray) : ∀ {L : List UpG} {a : Nat}, GChain rs n a L → GChain (rs ++ [x]) n a L
  | [], _, h => GTo.snoc h x
  | _ :: _, _, ⟨h1, h2, h3, h4, h5, h6, h7, h8⟩ => ⟨h1.snoc x, h2, h3.snoc x, h4, h5, h6, h7, h8.snoc x⟩

theorem GChain.plOf {rs : List ByteArray} {n : Nat} : ∀ {L : List UpG} {a : Nat}, GChain rs n a L → Go.Proofs.YtdokafldallnkaaGreat.plOf (ups L) ≤ a
  | [], _, _ => Nat.zero_le _
  | _ :: _, _, h => h.1.le

theorem GChain.falls {rs : List ByteArray} {n : Nat} : ∀ {L : List UpG} {a : Nat}, GChain rs n a L → FallsL (ups L)
  | [], _, _ => trivial
  | x :: xs, _, ⟨h1, h2, h3, h4, h5, h6, h7, h8⟩ => ⟨by have := h8.plOf; show Go.Proofs.YtdokafldallnkaaGreat.plOf (ups xs) < x.u.pl; omega, h8.falls⟩

/-- The same chain from a place that leads there. -/
theorem GChain.over {rs : List ByteArray} {n : Nat} {pl a : Nat} {r : RecV} (hr : RecIn rs pl r) (ho : RecOk n r) (hu : ¬ (r.kind = 1 ∧ r.undo ≠ 0)) (hl : leadN r = a) (hlt : a < pl) : ∀ {L : List UpG}, GChain rs n a L → GChain rs n pl L
  | [], h => GTo.over h hr ho hu hl hlt
  | _ :: _, ⟨h1, h2, h3⟩ => ⟨h1.over hr ho hu hl hlt, h2, h3⟩

/-- A transaction: b bytes stand in the log. -/
structure TxG (rs : List ByteArray) (b : Nat) (t : MtV) (n : Nat) (L : List UpG) : Prop where
  chain : GChain rs n t.next L
  lchain : GChain rs n t.last L
  tx : t.tx = n
  debts : t.debts = debtsOf (ups L)
  kept : roomSum (ups L) + cOf t.state ≤ t.kept
  last : t.last ≤ b
  next : t.next ≤ b
  begun : t.begun = true
  nn : n ≤ 2147483647

section
variable {l : LG} {rs : List ByteArray} {b : Nat} {t : MtV} {n pg : Nat} {L xs : List UpG} {x : UpG}

theorem TxG.start (rs : List ByteArray) (b n : Nat) (hn : n ≤ 2147483647) : TxG rs b (fresh n) n [] :=
  ⟨GTo.refl _ _ _, GTo.refl _ _ _, rfl, rfl, by show 0 + 50 ≤ 128; omega, Nat.zero_le _, Nat.zero_le _, rfl, hn⟩

theorem TxG.log (h : TxG rs l.bytes.length t n L) (hR : RecsAt l rs) (hst : t.state = 1) (hb : l.bytes.length ≤ 4194304) (h1 : 1 ≤ pg) (h2 : pg ≤ 2048) (S old : ByteArray) (hS : S.size ≤ 400) (ho : old.size ≤ 400) {b' : Nat} (hb' : l.bytes.length + 1 ≤ b') :
    TxG (rs ++ [logS t (setC pg S old)]) b' (logT t (setC pg S old) (l.bytes.length + 1)) n (⟨⟨l.bytes.length + 1, S, old⟩, pg, t.last⟩ :: L) := by
  have sz := logS_size t pg S old (by omega) (by omega)
  have hla := h.last
  have e : logS t (setC pg S old) = ⟨(encR (lineR n pg t.last ⟨l.bytes.length + 1, S, old⟩)).toArray⟩ := by
    show ByteArray.mk (encR (recU t _)).toArray = _
    rw [lineR_eq t n pg ⟨l.bytes.length + 1, S, old⟩ h.tx]
  have hin : RecIn (rs ++ [logS t (setC pg S old)]) (l.bytes.length + 1) (lineR n pg t.last ⟨l.bytes.length + 1, S, old⟩) := by rw [e]; exact RecIn.last hR _
  have hch : GChain (rs ++ [logS t (setC pg S old)]) n (l.bytes.length + 1) (⟨⟨l.bytes.length + 1, S, old⟩, pg, t.last⟩ :: L) :=
    ⟨GTo.refl _ _ _, by show l.bytes.length + 1 ≠ 0; omega, hin, by show t.last < l.bytes.length + 1; omega, ⟨h1, h2⟩, hS, ho, h.lchain.snoc _⟩
  have hstn : standN t.debts (l.bytes.length + 1) = (ups L).length := by rw [h.debts]; exact stand_line h.chain.falls (by have := h.chain.plOf; have := h.next; omega)
  refine ⟨hch, hch, h.tx, ?_, ?_, hb', hb', h.begun, h.nn⟩
  · show t.debts ++ [_] = debtsOf (ups L) ++ [_]
    rw [hstn, h.debts, owed_line, sz]
    show debtsOf (ups L) ++ [DbV.mk _ _] = debtsOf (ups L) ++ [DbV.mk _ (roomSum (ups L) + (197 + S.size + old.size))]
    rw [show roomSum (ups L) + (25 + S.size + old.size + 172) = roomSum (ups L) + (197 + S.size + old.size) by omega]
  · have := h.kept
    show roomSum (ups L) + (197 + S.size + old.size) + cOf t.state ≤ t.kept + ((logS t (setC pg S old)).size + 172)
    rw [sz]; omega

theorem TxG.comp (h : TxG rs l.bytes.length t n (x :: xs)) (hR : RecsAt l rs) (hb : l.bytes.length ≤ 4194304) {t' : MtV} (ht : t' = { t with kept := t.kept - (33 + x.u.S.size + x.u.old.size + 12), last := l.bytes.length + 1, next := x.prev, debts := debtsOf (ups xs) }) {b' : Nat} (hb' : l.bytes.length + 1 ≤ b') :
    TxG (rs ++ [compS t n x.pg (setO x.u.old x.u.S) x.prev]) b' t' n xs := by
  obtain ⟨g1, g2, g3, g4, g5, g6, g7, g8⟩ := h.chain
  have hla := h.last
  have hnx := h.next
  have hnn := h.nn
  have hle := g1.le
  have hk : roomSum (ups xs) + (197 + x.u.S.size + x.u.old.size) + cOf t.state ≤ t.kept := h.kept
  have hin : RecIn (rs ++ [compS t n x.pg (setO x.u.old x.u.S) x.prev]) (l.bytes.length + 1) (recC t n x.pg (setO x.u.old x.u.S) x.prev) := RecIn.last hR _
  have hch := g8.snoc (compS t n x.pg (setO x.u.old x.u.S) x.prev)
  subst ht
  refine ⟨hch, GChain.over (a := x.prev) hin (RecOk.comp t n x.pg x.u x.prev hnn g5.1 g5.2 (by omega) (by omega) (by omega) (by omega)) (fun e => by have : (2 : Int) = 1 := e.1; omega) rfl (by omega) hch, h.tx, rfl, ?_, hb', ?_, h.begun, hnn⟩
  · show roomSum (ups xs) + cOf t.state ≤ t.kept - _; omega
  · show x.prev ≤ b'; omega

/-- A nested top action ends: undoing goes on at a place of the chain. -/
theorem TxG.top {K : List UpG} {next : Nat} (h : TxG rs l.bytes.length t n (K ++ xs)) (hR : RecsAt l rs) (hb : l.bytes.length ≤ 4194304) (hc : GChain rs n next xs) (hnx : next ≤ t.next) {t' : MtV} (ht : t' = { t with kept := t.kept - 33, last := l.bytes.length + 1, next := next, debts := debtsOf (ups xs) }) (hk : roomSum (ups xs) + cOf t.state + 33 ≤ t.kept) {b' : Nat} (hb' : l.bytes.length + 1 ≤ b') :
    TxG (rs ++ [topS t n next]) b' t' n xs := by
  have hla := h.last
  have hn2 := h.next
  have hnn := h.nn
  have hin : RecIn (rs ++ [topS t n next]) (l.bytes.length + 1) (recT t n next) := RecIn.last hR _
  have hch := hc.snoc (topS t n next)
  subst ht
  refine ⟨hch, GChain.over (a := next) hin (RecOk.top t n next hnn (by omega) (by omega)) (fun e => by have : (3 : Int) = 1 := e.1; omega) rfl (by omega) hch, h.tx, rfl, ?_, hb', ?_, h.begun, hnn⟩
  · show roomSum (ups xs) + cOf t.state ≤ t.kept - 33; omega
  · show next ≤ b'; omega

end

end Go.Proofs.YtdokafldallnkaaGreat

namespace Go.Proofs.YtdokafldallnkaaGreat
open Go.RowKit Go.Sort
set_option linter.unusedVariables false
set_option linter.unusedSimpArgs false

def updV (V : Nat → ByteArray) (pg : Nat) (s : ByteArray) : Nat → ByteArray := fun k => if k = pg then s else V k

/-- The five pages, of one slot each: V. -/
structure PgV (lp : Nat) (P : PG) (V : Nat → ByteArray) : Prop where
  slot : ∀ pg, 1 ≤ pg → pg ≤ 5 → ∃ f, P.F pg = some f ∧ f.sh.Fits ∧ f.sh.num = pg ∧ f.sh.slots = [V pg] ∧ f.sh.head.size = 0
  z : P.z ≤ 8
  lp' : P.lp = lp

theorem PgV.start (dp lp : Nat) : PgV lp (begP dp lp 5) (fun _ => ⟨#[48]⟩) :=
  ⟨fun pg h1 h2 => ⟨⟨bSheet pg, 1⟩, by rw [begP_F, if_pos ⟨h1, h2⟩], bSheet_fits pg h1 (by omega), rfl, rfl, rfl⟩, by rw [begP_z]; omega, begP_lp dp lp 5⟩

theorem PgV.put {lp : Nat} {P : PG} {V : Nat → ByteArray} (h : PgV lp P V) {pg : Nat} {f : FrV} (hf : P.F pg = some f) (hfit : f.sh.Fits) (hnum : f.sh.num = pg) (hh : f.sh.head.size = 0) {S : ByteArray} {lsn : Nat} (hl : lsn < 18446744073709551616) (hS : S.size ≤ 400) : PgV lp (putP P { ({ f.sh with slots := [S] } : SheetV) with lsn := lsn }) (updV V pg S) := by
  refine ⟨fun k k1 k2 => ?_, ?_, h.lp'⟩
  · by_cases e : k = pg
    · subst e
      refine ⟨⟨{ ({ f.sh with slots := [S] } : SheetV) with lsn := lsn }, sinceF (oldS P f.sh.num) lsn⟩, ?_, set_fits hfit hh hS hl, hnum, ?_, hh⟩
      · show setFr P.F f.sh.num _ k = _
        rw [hnum]
        simp [setFr]
      · show [S] = [updV V k S k]
        simp [updV]
    · obtain ⟨g, a1, a2, a3, a4, a5⟩ := h.slot k k1 k2
      refine ⟨g, ?_, a2, a3, ?_, a5⟩
      · show setFr P.F f.sh.num _ k = _
        rw [hnum]
        simp only [setFr, if_neg e]
        exact a1
      · rw [a4]; simp [updV, e]
  · show (if (P.F f.sh.num).isSome = true then P.z else _) ≤ _
    rw [hnum, hf]
    exact h.z

/-- Taken back, one behind the other. -/
def undV (V : Nat → ByteArray) : List UpG → (Nat → ByteArray)
  | [] => V
  | x :: xs => undV (updV V x.pg x.u.old) xs

/-- .. each slot holds what the change put there. -/
def UndOk (V : Nat → ByteArray) : List UpG → Prop
  | [] => True
  | x :: xs => V x.pg = x.u.S ∧ x.pg ≤ 5 ∧ UndOk (updV V x.pg x.u.old) xs

section
variable {w : World} {m p : Nat} {X : Int → Nat} {A : Nat → Prop} {P : PG} {l : LG} {d : DG} {M : MgG} {rs : List ByteArray} {t : MtV} {n : Nat} {L xs : List UpG} {x : UpG} {K0 F : Nat}

theorem read_rec (h : MSys w m p X A P l d M) (hR : RecsAt l rs) (hb : l.bytes.length ≤ 4194304) {pl : Nat} {r : RecV} (hin : RecIn rs pl r) (hok : RecOk n r) :
    Calls Tryz.prog 71 #[.pointer (some ⟨m, 0, none⟩), .int .i64 n, .int .u64 pl] w fun e w' => ∃ ta da tc dc, e = .returned (.tuple #[.agg (r.cells ta da tc dc), .int .i64 0]) ∧ Below w.heap.size w w' := by
  obtain ⟨i, hi, hpl, hrb⟩ := hin
  have hcnt := hR.count
  refine read_ok h n pl (placeOf rs (i + 1)) (rs.getD i ⟨#[]⟩) (fun wz bz => ?_) r (fun wz => ?_) hok.tx
  · obtain ⟨Lg, hLg, _, _⟩ := (h.below bz).log
    have := get_recs hLg hR (by omega) hb i hi
    rw [hpl] at this
    refine this.mono ?_
    rintro e w' ⟨rfl, q, rfl⟩
    exact ⟨rfl, below_drewN (Below.refl _ _) q⟩
  · rw [hrb]
    exact dec_rec _ wz hok.may hok.wide hok.prev hok.next hok.page hok.rpage hok.len hok.ok

theorem TxG.at {b : Nat} (h : TxG rs b t n (x :: xs)) : TxG rs b { t with next := x.u.pl } n (x :: xs) := by
  obtain ⟨g1, g2⟩ := h.chain
  exact ⟨⟨GTo.refl _ _ _, g2⟩, h.lchain, h.tx, h.debts, h.kept, h.last, Nat.le_trans g1.le h.next, h.begun, h.nn⟩

/-- Where a transaction stands; rs0: the log ahead. -/
structure GS (w0 wx : World) (m p : Nat) (X : Int → Nat) (A0 : Nat → Prop) (lp : Nat) (d : DG) (M0 : MgG) (rs0 : List ByteArray) (n : Nat) (K0 F : Nat) (st : Int) (V : Nat → ByteArray) (L : List UpG) : Prop where
  ex : ∃ A P l rs t ext, MSys wx m p X A P l d (M0.set n t) ∧ RecsAt l rs ∧ TxG rs l.bytes.length t n L ∧ t.state = st ∧ l.kept = K0 + t.kept ∧ l.bytes.length + l.kept ≤ F ∧ PgV lp P V ∧ Moves A0 A w0 wx ∧ rs = rs0 ++ ext ∧ LOk l d

set_option maxRecDepth 20000 in
theorem g_step {w0 wx : World} {A0 : Nat → Prop} {lp : Nat} {M0 : MgG} {rs0 : List ByteArray} {st : Int} {V : Nat → ByteArray} {to' : Nat} (mb : Nat) (hmb : w0.cell? ⟨mb, 0, none⟩ = some (.pointer (some ⟨m, 0, none⟩))) (hnA : ¬ A0 mb) (h : GS w0 wx m p X A0 lp d M0 rs0 n K0 F st V (x :: xs)) (hF : F ≤ 4194304) (hto : to' < x.u.pl) (hV : V x.pg = x.u.S) (h5 : x.pg ≤ 5) :
    Calls Tryz.prog 21 #[.pointer (some ⟨m, 0, none⟩), .int .i64 n] wx (RollNx m n to' 80 (.pointer (some ⟨mb, 0, none⟩)) fun w' => GS w0 w' m p X A0 lp d M0 rs0 n K0 F st (updV V x.pg x.u.old) xs) := by
  obtain ⟨A, P, l, rs, t0, ext, hM, hR, hG0, hst0, hq0, hbF, hP, mv, hext, hlo⟩ := h.ex
  have hb : l.bytes.length + l.kept ≤ 4194304 := by omega
  obtain ⟨⟨path, hpath, hpr⟩, hpl0, hrin, hprev, ⟨hp1, hp2⟩, hS, hol, hch⟩ := hG0.chain
  have hnn := hG0.nn
  have hlast0 := hG0.last
  have hnx0 := hG0.next
  have hfal := hG0.chain.falls
  have hplle : x.u.pl ≤ t0.next := hpath.le
  have hcnt := hR.count
  have hst' := hR.len
  have hG := hG0.at
  have hdl : t0.debts.length ≤ 1000000 := by rw [hG0.debts, debts_length]; have h5 := room_len (ups (x :: xs)); have h6 := hG0.kept; omega
  have hrise : RisesD t0.debts := by rw [hG0.debts]; exact debts_rise hfal
  have hml : mb < w0.heap.size := World.block_lt_of_cell? _ _ hmb
  obtain ⟨r, Hr⟩ : ∃ r, Hid (lineR n x.pg x.prev x.u = r) := ⟨_, rfl⟩
  have hrok : RecOk n r := by rw [← Hr.out]; exact RecOk.line n x.pg x.prev x.u hnn hp1 hp2 (by omega) (by omega) (by omega)
  have hkd : r.kind = 1 := by rw [← Hr.out]; rfl
  have hun : r.undo ≠ 0 := by rw [← Hr.out]; show (1 : Int) ≠ 0; decide
  have hNX := next_path hM n (by omega) (by omega) (MgG.set_get M0 n t0) x.u.pl path hpath hpl0 hrise hdl r hkd hun (fun y hy wz bz => read_rec (hM.below bz) hR (by omega) (hpr y hy).1 (hpr y hy).2) (fun wz bz => read_rec (hM.below bz) hR (by omega) (by rw [← Hr.out]; exact hrin) hrok)
  have htt : ({ t0 with next := x.u.pl, debts := t0.debts.take (standN t0.debts x.u.pl) } : MtV) = { t0 with next := x.u.pl } := by
    have e0 : standN (debtsOf (ups (x :: xs))) x.u.pl = (ups (x :: xs)).length := stand_line hfal (Nat.le_refl _)
    rw [hG0.debts, e0, take_all, ← hG0.debts]
  obtain ⟨t, Ht⟩ : ∃ t, Hid (({ t0 with next := x.u.pl } : MtV) = t) := ⟨_, rfl⟩
  rw [htt, MgG.set_set, Ht.out] at hNX
  rw [Ht.out] at hG
  have hst : t.state = st := by rw [← Ht.out]; exact hst0
  have hq : l.kept = K0 + t.kept := by rw [← Ht.out]; exact hq0
  have hnx : t.next = x.u.pl := by rw [← Ht.out]
  have hlast := hG.last
  have hk : roomSum (ups xs) + (197 + x.u.S.size + x.u.old.size) + cOf t.state ≤ t.kept := hG.kept
  have hdl1 : t.debts.length ≤ 1000000 := by rw [← Ht.out]; exact hdl
  have hrise1 : RisesD t.debts := by rw [← Ht.out]; exact hrise
  have hcs := cOf_le t.state
  clear htt hst0 hq0 hlast0 hdl hrise
  refine hNX.mono ?_
  rintro e w1 ⟨⟨ta, da, tc, dc, rfl⟩, A1, g1, mv1⟩
  refine ⟨⟨r, ta, da, tc, dc, x.u.pl, rfl, hto, ⟨fun wy hwy => ?_⟩⟩⟩
  have by1 : Below w1.heap.size w1 wy := by rw [hwy]; exact (Below.refl _ _).alloc (Nat.le_refl _) _
  have xy : BlkR wy w1.heap.size (r.cells ta da tc dc) 58 := by rw [hwy]; exact Blk.made _ _ _
  have gy := g1.below by1
  have hm1 := (mv.trans mv1).off hml hnA
  have hmb1 : ∀ wz, Below w1.heap.size w1 wz → wz.cell? ⟨mb, 0, none⟩ = some (.pointer (some ⟨m, 0, none⟩)) := fun wz bz => by
    have hlt : mb < w1.heap.size := Nat.lt_of_lt_of_le hml (mv.trans mv1).1.size
    exact (World.cell?_of_block (w := w0) (a := ⟨mb, 0, none⟩) ((bz.block _ hlt).trans hm1.1)).trans hmb
  obtain ⟨f, hfF, hfit, hnum, hsl, hh⟩ := hP.slot x.pg hp1 h5
  have hop : invO r.op = setO x.u.old x.u.S := by rw [← Hr.out]; rfl
  have hpg : r.page = x.pg := by rw [← Hr.out]; rfl
  have hpv : r.prev = x.prev := by rw [← Hr.out]; rfl
  have hro : r.op.Ok := by rw [← Hr.out]; exact setO_ok _ _ (by omega) (by omega)
  have csz := compS_size t n x.pg x.u x.prev (by omega) (by omega)
  have hpp : plOf (ups xs) ≤ x.prev := hch.plOf
  have est : standN t.debts x.prev = (ups xs).length := by
    rw [hG.debts]
    unfold standN
    show ((debtsOf (ups xs) ++ [_]).takeWhile _).length = _
    rw [List.takeWhile_append_of_pos (fun q hq => by have := debts_mem hch.falls q hq; simp; omega)]
    have h2 : decide (x.u.pl ≤ x.prev) = false := by simp; omega
    simp [List.takeWhile, h2, debts_length]
  have eow : owedN t.debts (standN t.debts x.prev) = roomSum (ups xs) := by rw [est, hG.debts]; exact owed_tail x.u (ups xs)
  have ecn : compN t x.prev = roomSum (ups xs) + cOf t.state := by
    unfold compN wayN cOf
    rw [hG.begun, if_pos rfl, eow]
    split <;> rfl
  have hlen1 : (ups xs).length < t.debts.length := by rw [hG.debts, debts_length]; show (ups xs).length < (ups xs).length + 1; omega
  have esp := spend_eqs l t (compS t n x.pg (setO x.u.old x.u.S) x.prev) (compN t x.prev) (by rw [csz, ecn]; omega)
  have hcomp : ∀ wz, Below w1.heap.size w1 wz → Calls Tryz.prog 81 #[.pointer (some ⟨m, 0, none⟩), .int .i64 n, .int .u32 r.page, (invO r.op).val, .int .u64 r.prev] wz fun e w' => e = .returned (.tuple #[.int .u64 ((l.bytes.length + 1 : Nat) : Int), .int .i64 0]) ∧ ∃ A', MSys w' m p X A' (putP P { ({ f.sh with slots := [x.u.old] } : SheetV) with lsn := l.bytes.length + 1 }) (spendL l t (compS t n x.pg (setO x.u.old x.u.S) x.prev) (compN t x.prev)) d (M0.set n (compT l t (compS t n x.pg (setO x.u.old x.u.S) x.prev) x.prev)) ∧ Moves A1 A' wz w' := fun wz bz => by
    rw [hop, hpg, hpv]
    have hdo : ChangeDoes f.sh (setO x.u.old x.u.S) 0 { f.sh with slots := [x.u.old] } := set_does hfit (by rw [hsl, hV]) hh hS hol
    have := comp_ok (g1.below bz) n (by omega) (by omega) (MgG.set_get M0 n t) x.pg (setO x.u.old x.u.S) x.prev (fun wq => recC_ok t n x.pg x.u x.prev hnn hp2 (by omega) (by omega) (by omega) (by omega) wq) (recC_may t n x.pg x.u x.prev hnn (by omega) (by omega) (by omega)) (by rw [csz]; omega) hp1 hp2 hfF hfit (setO_ok _ _ (by omega) (by omega)) (setO_chk _ _ (by omega) (by omega)) hdo (set_fits hfit hh hol (by omega)) hnum (by show [x.u.old] ≠ []; simp) (by have := hP.z; omega) (by omega) hrise1 hdl1 (by rw [est]; right; exact hlen1) (by rw [eow]; omega) (by omega) (by rw [csz]; omega) (by rw [csz, ecn]; omega) (.inl (by rw [csz, ecn]; omega))
    rw [MgG.set_set] at this
    exact this
  have hask := ask_any gy n r ta da tc dc 80 (.pointer (some ⟨mb, 0, none⟩)) (putP P { ({ f.sh with slots := [x.u.old] } : SheetV) with lsn := l.bytes.length + 1 }) (spendL l t (compS t n x.pg (setO x.u.old x.u.S) x.prev) (compN t x.prev)) (M0.set n (compT l t (compS t n x.pg (setO x.u.old x.u.S) x.prev) x.prev)) (fun wz => rfl) (fun wz bz => by
    have bz1 := below_chain by1 bz
    exact back1_any (g1.below bz1) mb (hmb1 wz bz1) hm1.2 n r ta da tc dc (l.bytes.length + 1) _ _ _ (fun wq => inverse_any r.op wq hro) (fun wq bq => hcomp wq (below_chain bz1 bq)))
  refine hask.mono ?_
  rintro e w2 ⟨rfl, A2, g2, mv2⟩
  have hbox : ¬ A1 w1.heap.size := fun x => by have := g1.lt _ x; omega
  refine ⟨rfl, xy.same (mv2.off xy.lt hbox).1, ?_⟩
  have htn : (compT l t (compS t n x.pg (setO x.u.old x.u.S) x.prev) x.prev).next = x.prev := rfl
  have hPS := pass_other g2 n (by omega) (by omega) (MgG.set_get M0 n _) x.u.pl r.prev (by rw [htn]; omega)
  refine hidx (hPS.mono ?_)
  rintro e w3 ⟨rfl, rfl⟩
  have htG : compT l t (compS t n x.pg (setO x.u.old x.u.S) x.prev) x.prev = { t with kept := t.kept - (33 + x.u.S.size + x.u.old.size + 12), last := l.bytes.length + 1, next := x.prev, debts := debtsOf (ups xs) } := by
    unfold compT
    rw [esp.2, est, hG.debts, csz]
    show ({ t with kept := _, last := _, next := _, debts := (debtsOf (x.u :: ups xs)).take (ups xs).length } : MtV) = _
    rw [take_tail]
  have hlen' : (spendL l t (compS t n x.pg (setO x.u.old x.u.S) x.prev) (compN t x.prev)).bytes.length = l.bytes.length + (45 + x.u.S.size + x.u.old.size) := by
    rw [esp.1]; show (putG l _).bytes.length = _; rw [putG_len, csz]; omega
  have hkp' : (spendL l t (compS t n x.pg (setO x.u.old x.u.S) x.prev) (compN t x.prev)).kept = l.kept - (45 + x.u.S.size + x.u.old.size) := by
    rw [esp.1]; show l.kept - _ = _; rw [csz]; omega
  have hR' : RecsAt (spendL l t (compS t n x.pg (setO x.u.old x.u.S) x.prev) (compN t x.prev)) (rs ++ [compS t n x.pg (setO x.u.old x.u.S) x.prev]) := by
    rw [esp.1]
    have := hR.snoc (compS t n x.pg (setO x.u.old x.u.S) x.prev)
    exact ⟨this.starts, this.long, this.text⟩
  refine ⟨rfl, ⟨A2, _, _, rs ++ [compS t n x.pg (setO x.u.old x.u.S) x.prev], _, ext ++ [compS t n x.pg (setO x.u.old x.u.S) x.prev], g2, hR', ?_, hst, ?_, ?_, hP.put hfF hfit hnum hh (by omega) hol, (mv.trans mv1).trans ((Moves.of_kept (Kept.of_below by1)).trans mv2), by rw [hext, List.append_assoc], ?_⟩⟩
  · exact hG.comp hR (by omega) htG (by rw [hlen']; omega)
  · rw [hkp', htG]; show _ = K0 + (t.kept - _); omega
  · rw [hlen', hkp']; omega
  · exact ⟨hlo.half, by rw [hlen']; have := hlo.fl; show l.flushed ≤ _; omega, by rw [hlen']; omega, hlo.at'⟩

end

end Go.Proofs.YtdokafldallnkaaGreat

namespace Go.Proofs.YtdokafldallnkaaGreat
open Go.RowKit Go.Sort
set_option linter.unusedVariables false
set_option linter.unusedSimpArgs false

theorem undV_snoc (x : UpG) : ∀ (K : List UpG) (V : Nat → ByteArray), undV V (K ++ [x]) = updV (undV V K) x.pg x.u.old
  | [], V => rfl
  | y :: K, V => undV_snoc x K _

theorem UndOk.drop : ∀ (K : List UpG) {V : Nat → ByteArray} {R : List UpG}, UndOk V (K ++ R) → UndOk (undV V K) R
  | [], V, R, h => h
  | y :: K, V, R, h => UndOk.drop K h.2.2

theorem RecOk.mark (n last : Nat) (k : Int) (hk : 4 ≤ k ∧ k ≤ 6) (hn : n ≤ 2147483647) (hl : last < 18446744073709551616) : RecOk n (recM k n last) := by
  refine ⟨recM_may k n last hk hn, ⟨fun i hi => by simp [recM] at hi, fun i hi => by simp [recM] at hi⟩, hl, by show (0 : Nat) < _; omega, by show (0 : Nat) < _; omega, by show (0 : Nat) < _; omega, by rw [recM_len k n last hk]; omega, fun wx ta da a b => ?_, rfl⟩
  have := recM_ok k n last hk hn hl wx
  exact ⟨this.kind, this.tx, this.prev, this.next, this.page, this.op, this.undo, this.index, this.key, this.rpage, this.rslot, this.tlen, this.dlen, a, b⟩

section
variable {w : World} {m p : Nat} {X : Int → Nat} {A : Nat → Prop} {P : PG} {l : LG} {d : DG} {M : MgG} {rs : List ByteArray} {t : MtV} {n : Nat} {L xs : List UpG} {x : UpG} {K0 F : Nat}

theorem g_end {w0 wx : World} {A0 : Nat → Prop} {lp : Nat} {M0 : MgG} {rs0 : List ByteArray} {st : Int} {V : Nat → ByteArray} {to' : Nat} (h : GS w0 wx m p X A0 lp d M0 rs0 n K0 F st V (x :: xs)) (hF : F ≤ 4194304) (hto : x.u.pl ≤ to') :
    Calls Tryz.prog 21 #[.pointer (some ⟨m, 0, none⟩), .int .i64 n] wx (RollEnd to' fun w' => GS w0 w' m p X A0 lp d M0 rs0 n K0 F st V (x :: xs)) := by
  obtain ⟨A, P, l, rs, t0, ext, hM, hR, hG0, hst0, hq0, hbF, hP, mv, hext, hlo⟩ := h.ex
  have hb : l.bytes.length + l.kept ≤ 4194304 := by omega
  obtain ⟨⟨path, hpath, hpr⟩, hpl0, hrin, hprev, ⟨hp1, hp2⟩, hS, hol, hch⟩ := hG0.chain
  have hnn := hG0.nn
  have hnx0 := hG0.next
  have hfal := hG0.chain.falls
  have hplle : x.u.pl ≤ t0.next := hpath.le
  have hdl : t0.debts.length ≤ 1000000 := by rw [hG0.debts, debts_length]; have h5 := room_len (ups (x :: xs)); have h6 := hG0.kept; omega
  have hrise : RisesD t0.debts := by rw [hG0.debts]; exact debts_rise hfal
  have hrok := RecOk.line n x.pg x.prev x.u hnn hp1 hp2 (by omega) (by omega) (by omega)
  have hNX := next_path hM n (by omega) (by omega) (MgG.set_get M0 n t0) x.u.pl path hpath hpl0 hrise hdl (lineR n x.pg x.prev x.u) rfl (by show (1 : Int) ≠ 0; decide) (fun y hy wz bz => read_rec (hM.below bz) hR (by omega) (hpr y hy).1 (hpr y hy).2) (fun wz bz => read_rec (hM.below bz) hR (by omega) hrin hrok)
  have htt : ({ t0 with next := x.u.pl, debts := t0.debts.take (standN t0.debts x.u.pl) } : MtV) = { t0 with next := x.u.pl } := by
    have e0 : standN (debtsOf (ups (x :: xs))) x.u.pl = (ups (x :: xs)).length := stand_line hfal (Nat.le_refl _)
    rw [hG0.debts, e0, take_all, ← hG0.debts]
  rw [htt, MgG.set_set] at hNX
  refine hNX.mono ?_
  rintro e w1 ⟨⟨ta, da, tc, dc, rfl⟩, A1, g1, mv1⟩
  have by1 : Below w1.heap.size w1 (w1.alloc (.cells ((lineR n x.pg x.prev x.u).cells ta da tc dc) 58)) := (Below.refl _ _).alloc (Nat.le_refl _) _
  exact ⟨⟨_, ta, da, tc, dc, x.u.pl, rfl, hto, ⟨A1, P, l, rs, _, ext, g1.below by1, hR, hG0.at, hst0, hq0, hbF, hP, (mv.trans mv1).trans (Moves.of_kept (Kept.of_below by1)), hext, hlo⟩⟩⟩

theorem g_end0 {w0 wx : World} {A0 : Nat → Prop} {lp : Nat} {M0 : MgG} {rs0 : List ByteArray} {st : Int} {V : Nat → ByteArray} {to' : Nat} (h : GS w0 wx m p X A0 lp d M0 rs0 n K0 F st V []) (hF : F ≤ 4194304) :
    Calls Tryz.prog 21 #[.pointer (some ⟨m, 0, none⟩), .int .i64 n] wx (RollEnd to' fun w' => GS w0 w' m p X A0 lp d M0 rs0 n K0 F st V []) := by
  obtain ⟨A, P, l, rs, t0, ext, hM, hR, hG0, hst0, hq0, hbF, hP, mv, hext, hlo⟩ := h.ex
  have hb : l.bytes.length + l.kept ≤ 4194304 := by omega
  obtain ⟨path, hpath, hpr⟩ := hG0.chain
  have hnn := hG0.nn
  have hd : t0.debts = [] := hG0.debts
  have hNX := next_path0 hM n (by omega) (by omega) (MgG.set_get M0 n t0) path hpath (by rw [hd]; exact fun i j hj => absurd hj (Nat.not_lt_zero _)) (by rw [hd]; simp) (fun y hy wz bz => read_rec (hM.below bz) hR (by omega) (hpr y hy).1 (hpr y hy).2)
  have htt : ({ t0 with next := 0, debts := t0.debts.take (standN t0.debts 0) } : MtV) = { t0 with next := 0 } := by
    rw [hd]
    show ({ t0 with next := 0, debts := [] } : MtV) = _
    rw [← hd]
  rw [htt, MgG.set_set] at hNX
  refine hNX.mono ?_
  rintro e w1 ⟨rfl, A1, g1, mv1⟩
  have by1 : Below w1.heap.size w1 (w1.alloc (.cells (rec0.cells none none 0 0) 58)) := (Below.refl _ _).alloc (Nat.le_refl _) _
  have hG1 : TxG rs l.bytes.length { t0 with next := 0 } n [] := ⟨GTo.refl _ _ _, hG0.lchain, hG0.tx, hG0.debts, hG0.kept, hG0.last, Nat.zero_le _, hG0.begun, hnn⟩
  exact ⟨⟨rec0, none, none, 0, 0, 0, rfl, Nat.zero_le _, ⟨A1, P, l, rs, _, ext, g1.below by1, hR, hG1, hst0, hq0, hbF, hP, (mv.trans mv1).trans (Moves.of_kept (Kept.of_below by1)), hext, hlo⟩⟩⟩

/-- Back to a place. -/
theorem g_roll {w0 : World} {A0 : Nat → Prop} {lp : Nat} {M0 : MgG} {rs0 : List ByteArray} {st : Int} {V : Nat → ByteArray} (to' : Nat) (mb : Nat) (hmb : w0.cell? ⟨mb, 0, none⟩ = some (.pointer (some ⟨m, 0, none⟩))) (hnA : ¬ A0 mb) (h : GS w0 w m p X A0 lp d M0 rs0 n K0 F st V L) (hF : F ≤ 4194304) (hU : UndOk V L) (j : Nat) (hj : j ≤ L.length) (hover : ∀ i (hi : i < L.length), i < j → to' < L[i].u.pl) (hstop : plOf (ups (L.drop j)) ≤ to') :
    Calls Tryz.prog 26 #[.pointer (some ⟨m, 0, none⟩), .int .i64 n, .int .u64 to', .func (.func 80) #[] #[.pointer (some ⟨mb, 0, none⟩)]] w fun e w' => e = .returned (.int .i64 0) ∧ GS w0 w' m p X A0 lp d M0 rs0 n K0 F st (undV V (L.take j)) (L.drop j) := by
  have hf : ∃ fp, Calls Tryz.prog 58 #[.pointer (some ⟨m, 0, none⟩), .int .i64 n] w fun r w' => r = .returned (.tuple #[.pointer (some fp), .int .i64 0]) ∧ w = w' := by
    obtain ⟨A, P, l, rs, t0, ext, hM, hR, hG0, _⟩ := h.ex
    have := hG0.nn
    exact ⟨_, find_yes hM n (by omega) (by omega) (MgG.set_get M0 n t0)⟩
  obtain ⟨fp, hf⟩ := hf
  refine roll_any m n to' 80 (.pointer (some ⟨mb, 0, none⟩)) w fp j (fun i wx => GS w0 wx m p X A0 lp d M0 rs0 n K0 F st (undV V (L.take i)) (L.drop i)) (fun w' => GS w0 w' m p X A0 lp d M0 rs0 n K0 F st (undV V (L.take j)) (L.drop j)) hf h (fun i hi wx hx => ?_) (fun wx hx => ?_)
  · have hiL : i < L.length := by omega
    have e : L.drop i = L[i] :: L.drop (i + 1) := List.drop_eq_getElem_cons hiL
    have hx' : GS w0 wx m p X A0 lp d M0 rs0 n K0 F st (undV V (L.take i)) (L.drop i) := hx
    rw [e] at hx'
    have hUi : UndOk (undV V (L.take i)) (L[i] :: L.drop (i + 1)) := by rw [← e]; exact UndOk.drop (L.take i) (by rw [List.take_append_drop]; exact hU)
    have et : L.take (i + 1) = L.take i ++ [L[i]] := by rw [List.take_succ_eq_append_getElem hiL]
    have := g_step mb hmb hnA hx' hF (hover i hiL hi) hUi.1 hUi.2.1
    rw [← undV_snoc, ← et] at this
    exact this
  · have hx' : GS w0 wx m p X A0 lp d M0 rs0 n K0 F st (undV V (L.take j)) (L.drop j) := hx
    cases e : L.drop j with
    | nil => rw [e] at hx'; exact g_end0 hx' hF
    | cons y ys =>
      rw [e] at hx' hstop
      exact g_end hx' hF hstop

end

end Go.Proofs.YtdokafldallnkaaGreat

namespace Go.Proofs.YtdokafldallnkaaGreat
open Go.RowKit Go.Sort
set_option linter.unusedVariables false
set_option linter.unusedSimpArgs false

section
variable {w : World} {m p : Nat} {X : Int → Nat} {A : Nat → Prop} {P : PG} {l : LG} {d : DG} {M : MgG} {rs : List ByteArray} {t : MtV} {n : Nat} {L xs : List UpG} {x : UpG} {K0 F : Nat}

/-- The transaction behind the record of its abort. -/
theorem TxG.abort {rs : List ByteArray} {l : LG} (h : TxG rs l.bytes.length t n L) (hR : RecsAt l rs) (hb : l.bytes.length ≤ 4194304) (hst : t.state = 1) {t' : MtV} (ht : t' = { t with kept := t.kept - 25, last := l.bytes.length + 1, state := 3 }) {b' : Nat} (hb' : l.bytes.length + 1 ≤ b') :
    TxG (rs ++ [markS 5 t]) b' t' n L := by
  have hla := h.last
  have hn2 := h.next
  have hnn := h.nn
  have hk := h.kept
  rw [hst] at hk
  have hin : RecIn (rs ++ [markS 5 t]) (l.bytes.length + 1) (recM 5 n t.last) := by
    have : markS 5 t = ⟨(encR (recM 5 n t.last)).toArray⟩ := by unfold markS; rw [h.tx]
    rw [this]
    exact RecIn.last hR _
  subst ht
  refine ⟨h.chain.snoc _, GChain.over (a := t.last) hin (RecOk.mark n t.last 5 (by omega) hnn (by omega)) (fun e => by have : (5 : Int) = 1 := e.1; omega) rfl (by omega) (h.lchain.snoc _), h.tx, h.debts, ?_, hb', ?_, h.begun, hnn⟩
  · show roomSum (ups L) + cOf 3 ≤ t.kept - 25
    have e1 : cOf 1 = 50 := rfl
    have e3 : cOf 3 = 25 := rfl
    omega
  · show t.next ≤ b'; omega

theorem TxG.endOk {rs : List ByteArray} {l : LG} (h : TxG rs l.bytes.length t n []) (hR : RecsAt l rs) (hq : l.kept = K0 + t.kept) (hb : l.bytes.length + l.kept ≤ 4194304) : EndOk l t := by
  have h3 := h.kept
  have h4 := h.last
  have h5 := hR.count
  have h6 := hR.len
  have h7 := h.tx
  have h8 : roomSum (ups []) = 0 := rfl
  have h9 := cOf_le t.state
  have h10 := h.nn
  exact ⟨by omega, by omega, by omega, by omega, by omega, by omega, .inl (by omega)⟩

/-- The log behind the end. -/
theorem TxG.ended {rs : List ByteArray} {l : LG} (h : 25 ≤ t.kept) (hR : RecsAt l rs) (hq : l.kept = K0 + t.kept) (hb : l.bytes.length + l.kept ≤ F) : RecsAt (endL l t) (rs ++ [markS 6 t]) ∧ (endL l t).kept = K0 ∧ (endL l t).bytes.length = l.bytes.length + 25 ∧ (endL l t).bytes.length + (endL l t).kept ≤ F := by
  have sz := markS_size 6 t (by omega)
  have e := spend_eqs l t (markS 6 t) 0 (by rw [sz]; omega)
  have hR' := hR.snoc (markS 6 t)
  have hl := putG_len l (markS 6 t)
  have a1 : (endL l t).kept = K0 := by
    unfold endL
    rw [e.1, e.2]
    show l.kept - ((markS 6 t).size + 12) - (t.kept - ((markS 6 t).size + 12)) = K0
    rw [sz]; omega
  have a2 : (endL l t).bytes.length = l.bytes.length + 25 := by
    unfold endL
    rw [e.1, e.2]
    show (putG l (markS 6 t)).bytes.length = _
    rw [hl, sz]
  refine ⟨?_, a1, a2, by rw [a1, a2]; omega⟩
  unfold endL
  rw [e.1, e.2]
  exact ⟨hR'.starts, hR'.long, hR'.text⟩

theorem ended_lok {l : LG} {t : MtV} {d : DG} (h : 25 ≤ t.kept) (hlo : LOk l d) (hb : (endL l t).bytes.length = l.bytes.length + 25) (hm : l.bytes.length + 25 ≤ 4194304) : LOk (endL l t) d := by
  have sz := markS_size 6 t (by omega)
  have e := spend_eqs l t (markS 6 t) 0 (by rw [sz]; omega)
  refine ⟨?_, ?_, by rw [hb]; exact hm, ?_⟩
  · unfold endL; rw [e.1, e.2]; exact hlo.half
  · rw [hb]; have := hlo.fl; unfold endL; rw [e.1, e.2]; show l.flushed ≤ _; omega
  · unfold endL; rw [e.1, e.2]; exact hlo.at'

/-- What Abort leaves. -/
structure GAb (w0 w' : World) (m p : Nat) (X : Int → Nat) (A0 : Nat → Prop) (lp : Nat) (d : DG) (M0 : MgG) (rs0 : List ByteArray) (n : Nat) (K0 F : Nat) (V : Nat → ByteArray) : Prop where
  ex : ∃ A P l rs ext, MSys w' m p X A P l d (M0.gone n) ∧ RecsAt l rs ∧ l.kept = K0 ∧ l.bytes.length + l.kept ≤ F ∧ PgV lp P V ∧ Moves A0 A w0 w' ∧ rs = rs0 ++ ext ∧ LOk l d

theorem g_abort {w0 wy : World} {A0 : Nat → Prop} {lp : Nat} {M0 : MgG} {rs0 : List ByteArray} {V : Nat → ByteArray} (h : GS w0 w m p X A0 lp d M0 rs0 n K0 F 1 V L) (hby : Below w.heap.size w wy) (mb : Nat) (hge : w.heap.size ≤ mb) (hmb : wy.cell? ⟨mb, 0, none⟩ = some (.pointer (some ⟨m, 0, none⟩))) (hF : F ≤ 4194304) (hU : UndOk V L) (hpl : ∀ x ∈ L, 0 < x.u.pl) :
    Calls Tryz.prog 25 #[.pointer (some ⟨m, 0, none⟩), .int .i64 n, .func (.func 80) #[] #[.pointer (some ⟨mb, 0, none⟩)]] wy fun e w' => e = .returned (.int .i64 0) ∧ GAb w0 w' m p X A0 lp d M0 rs0 n K0 F (undV V L) := by
  obtain ⟨A, P, l, rs, t, ext, hM0, hR, hG, hst, hq, hbF, hP, mv0, hext, hlo⟩ := h.ex
  have hnA' : ¬ A mb := fun y => by have := hM0.lt _ y; omega
  have hM := hM0.below hby
  have mv : Moves A0 A w0 wy := mv0.trans (Moves.of_kept (Kept.of_below hby))
  have hlast := hG.last
  have hnx := hG.next
  have hcnt := hR.count
  have hst' := hR.len
  have htx := hG.tx
  have hnn := hG.nn
  have hk := hG.kept
  have ec : cOf t.state = 50 := by rw [hst]; rfl
  have est : standN t.debts t.next = (ups L).length := by rw [hG.debts]; exact stand_line hG.chain.falls hG.chain.plOf
  have eow : owedN t.debts (standN t.debts t.next) = roomSum (ups L) := by rw [est, hG.debts]; exact owed_line (ups L)
  have eab : abN t = roomSum (ups L) + 25 := by
    unfold abN wayN
    rw [hG.begun, if_pos rfl, if_neg (by decide), eow]
  have sz := markS_size 5 t (by omega)
  have esp := spend_eqs l t (markS 5 t) (abN t) (by rw [sz, eab]; omega)
  have eT : abT l t = { t with kept := t.kept - 25, last := l.bytes.length + 1, state := 3 } := by unfold abT; rw [esp.2, sz]
  have eLb : (abL l t).bytes.length = l.bytes.length + 25 := by unfold abL; rw [esp.1]; show (putG l _).bytes.length = _; rw [putG_len, sz]
  have eLk : (abL l t).kept = l.kept - 25 := by unfold abL; rw [esp.1, sz]
  have hR1 : RecsAt (abL l t) (rs ++ [markS 5 t]) := by
    have := hR.snoc (markS 5 t)
    unfold abL
    rw [esp.1]
    exact ⟨this.starts, this.long, this.text⟩
  have hG1 : TxG (rs ++ [markS 5 t]) (abL l t).bytes.length (abT l t) n L := hG.abort hR (by omega) hst eT (by rw [eLb]; omega)
  have hloA : LOk (abL l t) d := by
    refine ⟨?_, ?_, by rw [eLb]; omega, ?_⟩
    · unfold abL; rw [esp.1]; exact hlo.half
    · rw [eLb]; have := hlo.fl; unfold abL; rw [esp.1]; show l.flushed ≤ _; omega
    · unfold abL; rw [esp.1]; exact hlo.at'
  have hrl := room_len (ups L)
  refine (abort_any (Z := fun P2 l2 d2 M2 t2 => d2 = d ∧ M2 = M0.set n t2 ∧ ∃ A2 rs2 ext2 w2, RecsAt l2 rs2 ∧ TxG rs2 l2.bytes.length t2 n [] ∧ l2.kept = K0 + t2.kept ∧ l2.bytes.length + l2.kept ≤ F ∧ PgV lp P2 (undV V L) ∧ rs2 = rs0 ++ ext2 ∧ LOk l2 d ∧ (A2 : Nat → Prop) = A2 ∧ (w2 : World) = w2) hM n (by omega) (by omega) (MgG.set_get M0 n t) hst 80 (.pointer (some ⟨mb, 0, none⟩)) (by omega) (by omega) (by rw [hG.debts]; exact debts_rise hG.chain.falls) (by rw [hG.debts, debts_length]; omega) (by rw [eow]; omega) (by omega) (by omega) (by omega) (by rw [eab]; omega) (.inl (by rw [eab]; omega)) (fun wx A1 g1 mv1 => ?_)).mono ?_
  · have hml : mb < wy.heap.size := World.block_lt_of_cell? _ _ hmb
    have hmx := mv1.off hml hnA'
    have hmbx : wx.cell? ⟨mb, 0, none⟩ = some (.pointer (some ⟨m, 0, none⟩)) := (World.cell?_of_block (w := wy) (a := ⟨mb, 0, none⟩) hmx.1).trans hmb
    rw [MgG.set_set] at g1
    have hGS : GS wx wx m p X A1 lp d M0 rs0 n K0 F 3 V L := ⟨A1, P, _, _, _, ext ++ [markS 5 t], g1, hR1, hG1, rfl, by rw [eLk, eT]; show _ = K0 + (t.kept - 25); omega, by rw [eLb, eLk]; omega, hP, Moves.refl _ _, by rw [hext, List.append_assoc], hloA⟩
    have hro := g_roll (w0 := wx) (A0 := A1) 0 mb hmbx hmx.2 hGS hF hU L.length (Nat.le_refl _) (fun i hi _ => hpl _ (List.getElem_mem hi)) (by rw [List.drop_length]; exact Nat.le_refl _)
    rw [List.take_length, List.drop_length] at hro
    refine hro.mono ?_
    rintro e w' ⟨rfl, hS⟩
    obtain ⟨A2, P2, l2, rs2, t2, ext2, g2, hR2, hG2, hst2, hq2, hb2, hP2, mv2, hext2, hlo2⟩ := hS.ex
    exact ⟨rfl, P2, l2, d, M0.set n t2, t2, ⟨A2, g2, mv2⟩, MgG.set_get M0 n t2, hG2.endOk hR2 hq2 (by omega), rfl, rfl, A2, rs2, ext2, w', hR2, hG2, hq2, hb2, hP2, hext2, hlo2, rfl, rfl⟩
  · rintro e w' ⟨rfl, hA⟩
    obtain ⟨A', P2, l2, d2, M2, t2, g2, mv2, _, _, rfl, rfl, _, rs2, ext2, _, hR2, hG2, hq2, hb2, hP2, hext2, hlo2, _, _⟩ := hA.ex
    have h3 := hG2.kept
    have h9 := cOf_le t2.state
    obtain ⟨a1, a2, a3, a4⟩ := TxG.ended (F := F) (show 25 ≤ t2.kept by omega) hR2 hq2 hb2
    rw [MgG.set_gone] at g2
    exact ⟨rfl, ⟨A', P2, _, _, ext2 ++ [markS 6 t2], g2, a1, a2, a4, hP2, mv.trans mv2, by rw [hext2, List.append_assoc], ended_lok (show 25 ≤ t2.kept by omega) hlo2 a3 (by omega)⟩⟩

end

end Go.Proofs.YtdokafldallnkaaGreat

namespace Go.Proofs.YtdokafldallnkaaGreat
open Go.RowKit Go.Sort
set_option linter.unusedVariables false
set_option linter.unusedSimpArgs false

/-- Where a transaction stands that has not gone back: C is what is kept beside what is owed, B bytes stood in the log at the savepoint a, behind the changes Ls. -/
structure GX (w0 wx : World) (m p : Nat) (X : Int → Nat) (A0 : Nat → Prop) (lp : Nat) (d : DG) (M0 : MgG) (n : Nat) (K0 F C B a : Nat) (Ls : List UpG) (V : Nat → ByteArray) (L : List UpG) : Prop where
  ex : ∃ A P l rs t, MSys wx m p X A P l d (M0.set n t) ∧ RecsAt l rs ∧ TxG rs l.bytes.length t n L ∧ t.state = 1 ∧ l.kept = K0 + t.kept ∧ l.bytes.length + l.kept ≤ F ∧ PgV lp P V ∧ Moves A0 A w0 wx ∧ roomSum (ups L) + C ≤ t.kept ∧ B ≤ l.bytes.length ∧ a ≤ t.next ∧ GChain rs n a Ls ∧ LOk l d

section
variable {w : World} {m p : Nat} {X : Int → Nat} {A : Nat → Prop} {P : PG} {l : LG} {d : DG} {M : MgG} {rs : List ByteArray} {t : MtV} {n : Nat} {L xs Ls : List UpG} {x : UpG} {K0 F C B a : Nat}

theorem GX.gs {w0 wx : World} {A0 : Nat → Prop} {lp : Nat} {M0 : MgG} {V : Nat → ByteArray} (h : GX w0 wx m p X A0 lp d M0 n K0 F C B a Ls V L) : ∃ rs, GS w0 wx m p X A0 lp d M0 rs n K0 F 1 V L := by
  obtain ⟨A, P, l, rs, t, hM, hR, hG, hst, hq, hbF, hP, mv, hC, hB, ha, hcL, hlo⟩ := h.ex
  exact ⟨rs, ⟨A, P, l, rs, t, [], hM, hR, hG, hst, hq, hbF, hP, mv, by rw [List.append_nil], hlo⟩⟩

theorem GX.below {w0 wx wy : World} {A0 : Nat → Prop} {lp : Nat} {M0 : MgG} {V : Nat → ByteArray} (h : GX w0 wx m p X A0 lp d M0 n K0 F C B a Ls V L) (b : Below wx.heap.size wx wy) : GX w0 wy m p X A0 lp d M0 n K0 F C B a Ls V L := by
  obtain ⟨A, P, l, rs, t, hM, hR, hG, hst, hq, hbF, hP, mv, hC, hB, ha, hcL, hlo⟩ := h.ex
  exact ⟨A, P, l, rs, t, hM.below b, hR, hG, hst, hq, hbF, hP, mv.trans (Moves.of_kept (Kept.of_below b)), hC, hB, ha, hcL, hlo⟩

theorem gx_slot {w0 : World} {A0 : Nat → Prop} {lp : Nat} {M0 : MgG} {V : Nat → ByteArray} (h : GX w0 w m p X A0 lp d M0 n K0 F C B a Ls V L) (pg : Nat) (h1 : 1 ≤ pg) (h5 : pg ≤ 5) :
    Calls Tryz.prog 35 #[.pointer (some ⟨m, 0, none⟩), .int .i64 pg] w fun e w' => e = .returned (.string (V pg)) ∧ Below w.heap.size w w' := by
  obtain ⟨A, P, l, rs, t, hM, hR, hG, hst, hq, hbF, hP, mv, hC, hB, ha, hcL, hlo⟩ := h.ex
  obtain ⟨f, hf, hfit, hnum, hsl, hh⟩ := hP.slot pg h1 h5
  exact slot_any hM pg h1 (by omega) hf _ hsl

theorem gx_save {w0 : World} {A0 : Nat → Prop} {lp : Nat} {M0 : MgG} {V : Nat → ByteArray} (h : GX w0 w m p X A0 lp d M0 n K0 F C B a Ls V L) :
    Calls Tryz.prog 19 #[.pointer (some ⟨m, 0, none⟩), .int .i64 n] w fun e w' => ∃ a' B' : Nat, e = .returned (.tuple #[.int .u64 a', .int .i64 0]) ∧ a' ≤ B' ∧ GX w0 w m p X A0 lp d M0 n K0 F C B' a' L V L ∧ w = w' := by
  obtain ⟨A, P, l, rs, t, hM, hR, hG, hst, hq, hbF, hP, mv, hC, hB, ha, hcL, hlo⟩ := h.ex
  have hnn := hG.nn
  refine (save_any hM n (by omega) (by omega) (MgG.set_get M0 n t)).mono ?_
  rintro e w' ⟨rfl, rfl⟩
  exact ⟨t.next, l.bytes.length, rfl, hG.next, ⟨A, P, l, rs, t, hM, hR, hG, hst, hq, hbF, hP, mv, hC, Nat.le_refl _, Nat.le_refl _, hG.chain, hlo⟩, rfl⟩

/-- A change is logged. -/
theorem gx_log {w0 : World} {A0 : Nat → Prop} {lp : Nat} {M0 : MgG} {V : Nat → ByteArray} (h : GX w0 w m p X A0 lp d M0 n K0 F C B a Ls V L) (pg : Nat) (h1 : 1 ≤ pg) (h5 : pg ≤ 5) (S : ByteArray) (hS : S.size ≤ 400) (ho : (V pg).size ≤ 400) (hF : F + 2000 ≤ 4194304) :
    Calls Tryz.prog 18 #[.pointer (some ⟨m, 0, none⟩), .int .i64 n, .agg (setC pg S (V pg)).cells] w fun e w' => ∃ (pl prev : Nat), e = .returned (.tuple #[.int .u64 pl, .int .i64 0]) ∧ B < pl ∧ GX w0 w' m p X A0 lp d M0 n K0 (F + 2000) C B a Ls (updV V pg S) (⟨⟨pl, S, V pg⟩, pg, prev⟩ :: L) := by
  obtain ⟨A, P, l, rs, t, hM, hR, hG, hst, hq, hbF, hP, mv, hC, hB, ha, hcL, hlo⟩ := h.ex
  have hb : l.bytes.length + l.kept + 2000 ≤ 4194304 := by omega
  have sz := logS_size t pg S (V pg) (by omega) (by omega)
  obtain ⟨f, hf, hfit, hnum, hsl, hh⟩ := hP.slot pg h1 h5
  have hlast := hG.last
  have hnn := hG.nn
  have hcnt := hR.count
  have hst' := hR.len
  have e1 : standN t.debts (l.bytes.length + 1) = (ups L).length := by rw [hG.debts]; exact stand_line hG.chain.falls (by have := hG.chain.plOf; have := hG.next; omega)
  have hrec := lineR_eq t n pg ⟨l.bytes.length + 1, S, V pg⟩ hG.tx
  have hkk := hG.kept
  have hrl := room_len (ups L)
  refine (tlog_ok hM n (by omega) (by omega) (MgG.set_get M0 n t) hst (setC pg S (V pg)) (fun wx => ?_) ?_ (by show (1 : Int) ≠ 0; decide) (by rw [sz]; omega) h1 (by show pg ≤ 2048; omega) hf hfit (setO_ok _ _ (by omega) (by omega)) (setO_chk _ _ (by omega) (by omega)) (set_does hfit hsl hh ho hS) (set_fits hfit hh hS (by omega)) hnum (by show [S] ≠ []; simp) (by have := hP.z; omega) (by omega) (by rw [sz]; omega) (by omega) (by rw [hG.debts]; exact debts_rise hG.chain.falls) (by rw [hG.debts, debts_length]; omega) (by rw [e1, hG.debts, owed_line]; omega)).mono ?_
  · rw [hrec]; exact lineR_ok n pg t.last _ hnn (by omega) (by omega) (by show S.size ≤ _; omega) (by show (V pg).size ≤ _; omega) wx none none (.inl rfl) (.inl rfl)
  · rw [hrec]; exact lineR_may n pg t.last _ hnn (by omega) (by show S.size ≤ _; omega) (by show (V pg).size ≤ _; omega)
  · rintro e w' ⟨rfl, A', g, mv'⟩
    rw [MgG.set_set] at g
    have hlen : (putG { l with kept := l.kept + ((logS t (setC pg S (V pg))).size + 172) } (logS t (setC pg S (V pg)))).bytes.length = l.bytes.length + ((logS t (setC pg S (V pg))).size + 12) := putG_len _ _
    have hR' : RecsAt (putG { l with kept := l.kept + ((logS t (setC pg S (V pg))).size + 172) } (logS t (setC pg S (V pg)))) (rs ++ [logS t (setC pg S (V pg))]) := RecsAt.snoc (l := { l with kept := l.kept + ((logS t (setC pg S (V pg))).size + 172) }) ⟨hR.starts, hR.long, hR.text⟩ _
    have hnx := hG.next
    refine ⟨l.bytes.length + 1, t.last, rfl, by omega, ⟨A', _, _, rs ++ [logS t (setC pg S (V pg))], _, g, hR', ?_, hst, ?_, ?_, hP.put hf hfit hnum hh (by omega) hS, mv.trans mv', ?_, by rw [hlen]; omega, by show a ≤ l.bytes.length + 1; omega, hcL.snoc _, ?_⟩⟩
    · exact hG.log hR hst (by omega) h1 (by omega) S (V pg) hS ho (by rw [hlen]; omega)
    · show l.kept + _ = K0 + (t.kept + _); omega
    · rw [hlen]; show _ + (l.kept + _) ≤ _; rw [sz]; omega
    · show roomSum (ups L) + (197 + S.size + (V pg).size) + C ≤ t.kept + ((logS t (setC pg S (V pg))).size + 172)
      rw [sz]; omega
    · exact ⟨hlo.half, by rw [hlen]; have := hlo.fl; show l.flushed ≤ _; omega, by rw [hlen, sz]; omega, hlo.at'⟩

/-- A nested top action ends. -/
theorem gx_top {w0 : World} {A0 : Nat → Prop} {lp : Nat} {M0 : MgG} {V : Nat → ByteArray} {K : List UpG} (h : GX w0 w m p X A0 lp d M0 n K0 F C B a xs V (K ++ xs)) (hF : F ≤ 4194304) (hov : ∀ y ∈ K, a < y.u.pl) (hC83 : 83 ≤ C) :
    Calls Tryz.prog 20 #[.pointer (some ⟨m, 0, none⟩), .int .i64 n, .int .u64 a] w fun e w' => ∃ pl : Nat, e = .returned (.tuple #[.int .u64 pl, .int .i64 0]) ∧ GX w0 w' m p X A0 lp d M0 n K0 F (C - 33) B a xs V xs := by
  obtain ⟨A, P, l, rs, t, hM, hR, hG, hst, hq, hbF, hP, mv, hC, hB, hx, hcx, hlo⟩ := h.ex
  obtain ⟨next, Hn⟩ : ∃ q, Hid (a = q) := ⟨_, rfl⟩
  have hnq := Hn.out
  rw [hnq] at hov hx hcx ⊢
  have hnn := hG.nn
  have hlast := hG.last
  have hn2 := hG.next
  have hcnt := hR.count
  have hst' := hR.len
  have hrsum : ∀ K : List UpG, roomSum (ups xs) ≤ roomSum (ups (K ++ xs)) := by
    intro K
    induction K with
    | nil => exact Nat.le_refl _
    | cons y K ih => show _ ≤ roomSum (ups (K ++ xs)) + _; omega
  have hk : roomSum (ups xs) + 83 ≤ t.kept := by have := hrsum K; omega
  have hpx := hcx.plOf
  have hfl := hG.chain.falls
  have ec : cOf t.state = 50 := by rw [hst]; rfl
  have hrise : RisesD t.debts := by rw [hG.debts]; exact debts_rise hfl
  have hdd : ∀ K : List UpG, debtsOf (ups (K ++ xs)) = debtsOf (ups xs) ++ (debtsOf (ups (K ++ xs))).drop (ups xs).length := by
    intro K
    induction K with
    | nil =>
      show debtsOf (ups xs) = debtsOf (ups xs) ++ (debtsOf (ups xs)).drop (ups xs).length
      rw [← debts_length (ups xs), List.drop_length, List.append_nil]
    | cons y K ih =>
      show debtsOf (ups (K ++ xs)) ++ [_] = _ ++ (debtsOf (ups (K ++ xs)) ++ [_]).drop _
      rw [List.drop_append_of_le_length (by rw [debts_length]; simp [ups]), ← List.append_assoc, ← ih]
  have hall : ∀ K : List UpG, (∀ y ∈ K, next < y.u.pl) → ∀ q ∈ (debtsOf (ups (K ++ xs))).drop (ups xs).length, next < q.lsn := by
    intro K
    induction K with
    | nil =>
      intro _ q hq
      have : (debtsOf (ups xs)).drop (ups xs).length = [] := by rw [← debts_length (ups xs), List.drop_length]
      have hq' : q ∈ (debtsOf (ups xs)).drop (ups xs).length := hq
      rw [this] at hq'
      simp at hq'
    | cons y K ih =>
      intro hy q hq
      have hq' : q ∈ (debtsOf (ups (K ++ xs)) ++ [DbV.mk y.u.pl (roomSum (ups (y :: K ++ xs)))]).drop (ups xs).length := hq
      rw [List.drop_append_of_le_length (by rw [debts_length]; simp [ups]), List.mem_append] at hq'
      rcases hq' with hq' | hq'
      · exact ih (fun z hz => hy z (by simp [hz])) q hq'
      · simp at hq'
        subst hq'
        exact hy y (by simp)
  have est : standN t.debts next = (ups xs).length := by
    rw [hG.debts, hdd K]
    unfold standN
    rw [List.takeWhile_append_of_pos (fun q hq => by have := debts_mem hcx.falls q hq; simp; omega)]
    have h2 : ((debtsOf (ups (K ++ xs))).drop (ups xs).length).takeWhile (fun q => decide (q.lsn ≤ next)) = [] := by
      cases e : (debtsOf (ups (K ++ xs))).drop (ups xs).length with
      | nil => rfl
      | cons q Q =>
        have := hall K hov q (by rw [e]; simp)
        simp only [List.takeWhile]
        rw [show decide (q.lsn ≤ next) = false by simp; omega]
    rw [h2, List.append_nil, debts_length]
  have etk : t.debts.take (standN t.debts next) = debtsOf (ups xs) := by
    rw [est, hG.debts, hdd K, ← debts_length (ups xs)]
    exact List.take_left
  have eow : owedN t.debts (standN t.debts next) = roomSum (ups xs) := by
    rw [← owed_line (ups xs), ← etk, est]
    unfold owedN
    by_cases e : (ups xs).length = 0
    · rw [if_pos e, if_pos e]
    · rw [if_neg e, if_neg e]
      rw [List.getElem?_take_of_lt (by omega)]
  have etn : topN t next = roomSum (ups xs) + 50 := by
    unfold topN wayN
    rw [hG.begun, if_pos rfl, if_pos hst, eow]
  have sz := topS_size t n next
  have esp := spend_eqs l t (topS t n next) (topN t next) (by rw [sz, etn]; omega)
  have hkk := hG.kept
  have hrl := room_len (ups (K ++ xs))
  refine (top_ok hM n ⟨by omega, by omega⟩ (MgG.set_get M0 n t) next hx (by omega) (by omega) hrise (by rw [hG.debts, debts_length]; omega) (by rw [eow]; omega) (by omega) (by omega) (by omega) (by rw [etn]; omega) (.inl (by rw [etn]; omega))).mono ?_
  rintro e w' ⟨rfl, A', g, mv'⟩
  rw [MgG.set_set] at g
  have hlen : (spendL l t (topS t n next) (topN t next)).bytes.length = l.bytes.length + 33 := by rw [esp.1]; show (putG l _).bytes.length = _; rw [putG_len, sz]
  have hkp : (spendL l t (topS t n next) (topN t next)).kept = l.kept - 33 := by rw [esp.1, sz]
  have hR' : RecsAt (spendL l t (topS t n next) (topN t next)) (rs ++ [topS t n next]) := by
    have := hR.snoc (topS t n next)
    rw [esp.1]
    exact ⟨this.starts, this.long, this.text⟩
  have htG : ({ spendT l t (topS t n next) (topN t next) with next := next, debts := t.debts.take (standN t.debts next) } : MtV) = { t with kept := t.kept - 33, last := l.bytes.length + 1, next := next, debts := debtsOf (ups xs) } := by
    rw [esp.2, etk, sz]
  refine ⟨l.bytes.length + 1, rfl, ⟨A', P, _, rs ++ [topS t n next], _, g, hR', ?_, hst, ?_, ?_, hP, mv.trans mv', ?_, by rw [hlen]; omega, by rw [htG]; exact Nat.le_refl _, hcx.snoc _, ?_⟩⟩
  · rw [htG]
    exact hG.top hR (by omega) hcx hx rfl (by rw [ec]; omega) (by rw [hlen]; omega)
  · rw [htG, hkp]; show _ = K0 + (t.kept - 33); omega
  · rw [hlen, hkp]; omega
  · rw [htG]
    show roomSum (ups xs) + (C - 33) ≤ t.kept - 33
    have := hrsum K
    omega
  · refine ⟨?_, ?_, by rw [hlen]; omega, ?_⟩
    · rw [esp.1]; exact hlo.half
    · rw [hlen]; have := hlo.fl; rw [esp.1]; show l.flushed ≤ _; omega
    · rw [esp.1]; exact hlo.at'

end

end Go.Proofs.YtdokafldallnkaaGreat

namespace Go.Proofs.YtdokafldallnkaaGreat
open Go.RowKit Go.Sort
set_option linter.unusedVariables false
set_option linter.unusedSimpArgs false

def cntT (n : Int) : Nat := if n < 0 then 0 else (n % 5).toNat

theorem cntT_le (n : Int) : cntT n ≤ 4 := by unfold cntT; split <;> omega

theorem count_any (n : Int) (h1 : -9223372036854775808 ≤ n) (h2 : n ≤ 9223372036854775807) (w : World) :
    Calls Tryz.prog 33 #[.int .i64 n] w fun e w' => e = .returned (.int .i64 (cntT n)) ∧ w = w' := by
  by_cases hn : n < 0
  · have e : Hid (cntT n = 0) := by show cntT n = 0; unfold cntT; rw [if_pos hn]
    rw [e.out]
    go_enter Tryz.func33, Tryz.ntmps33
    go_wp2
    go_ret
    exact ⟨rfl, rfl⟩
  · have e : Hid ((cntT n : Int) = n % 5) := by show (cntT n : Int) = _; unfold cntT; rw [if_neg hn]; omega
    have hm1 : n.tmod 5 = n % 5 := Int.tmod_eq_emod_of_nonneg (by omega)
    have hn' : 0 ≤ n := by omega
    go_enter Tryz.func33, Tryz.ntmps33
    go_wp2
    go_ret
    exact ⟨xret_int (by rw [e.out]), rfl⟩

def repB (s : ByteArray) (mk : UInt8) : Nat → ByteArray
  | 0 => s
  | i + 1 => repB s mk i ++ ⟨#[mk]⟩

theorem repB_size (s : ByteArray) (mk : UInt8) : ∀ i, (repB s mk i).size = s.size + i
  | 0 => rfl
  | i + 1 => by
    show (repB s mk i ++ ⟨#[mk]⟩).size = _
    rw [ByteArray.size_append, repB_size s mk i]
    show s.size + i + 1 = _
    omega

theorem updV_self (V : Nat → ByteArray) (pg : Nat) : updV V pg (V pg) = V := by
  funext k
  unfold updV
  by_cases e : k = pg
  · rw [if_pos e, e]
  · rw [if_neg e]

theorem updV_get (V : Nat → ByteArray) (pg : Nat) (s : ByteArray) : updV V pg s pg = s := by simp [updV]

theorem updV_upd (V : Nat → ByteArray) (pg : Nat) (s s' : ByteArray) : updV (updV V pg s) pg s' = updV V pg s' := by
  funext k
  unfold updV
  by_cases e : k = pg
  · rw [if_pos e, if_pos e]
  · rw [if_neg e, if_neg e, if_neg e]

theorem updV_comm (V : Nat → ByteArray) {p1 p2 : Nat} (h : p1 ≠ p2) (s s' : ByteArray) : updV (updV V p1 s) p2 s' = updV (updV V p2 s') p1 s := by
  funext k
  unfold updV
  by_cases e : k = p2
  · rw [if_pos e, if_neg (by omega), if_pos e]
  · rw [if_neg e]
    by_cases e1 : k = p1
    · rw [if_pos e1, if_pos e1]
    · rw [if_neg e1, if_neg e1, if_neg e]

theorem UndOk.other {k : Nat} (s : ByteArray) : ∀ {L : List UpG} {V : Nat → ByteArray}, (∀ y ∈ L, y.pg ≠ k) → UndOk V L → UndOk (updV V k s) L
  | [], _, _, _ => trivial
  | x :: xs, V, hk, h => by
    have hx := hk x (by simp)
    refine ⟨by unfold updV; rw [if_neg hx]; exact h.1, h.2.1, ?_⟩
    rw [updV_comm V (Ne.symm hx)]
    exact UndOk.other s (fun y hy => hk y (by simp [hy])) h.2.2

theorem undV_other {k : Nat} (s : ByteArray) : ∀ {L : List UpG} {V : Nat → ByteArray}, (∀ y ∈ L, y.pg ≠ k) → undV (updV V k s) L = updV (undV V L) k s
  | [], _, _ => rfl
  | x :: xs, V, hk => by
    have hx := hk x (by simp)
    show undV (updV (updV V k s) x.pg x.u.old) xs = updV (undV (updV V x.pg x.u.old) xs) k s
    rw [updV_comm V (Ne.symm hx)]
    exact undV_other s fun y hy => hk y (by simp [hy])

theorem undV_append : ∀ (K R : List UpG) (V : Nat → ByteArray), undV V (K ++ R) = undV (undV V K) R
  | [], R, V => rfl
  | x :: K, R, V => undV_append K R _

/-- The new changes K of a page, behind L. -/
structure NewK (B pg : Nat) (V V' : Nat → ByteArray) (K L : List UpG) : Prop where
  pls : ∀ y ∈ K, B < y.u.pl
  pgs : ∀ y ∈ K, y.pg = pg
  back : undV V' K = V
  ok : UndOk V' (K ++ L)

section
variable {w : World} {m p : Nat} {X : Int → Nat} {d : DG} {n : Nat} {L Ls : List UpG} {K0 F C B a : Nat}

/-- What do leaves. -/
structure DoOut (w0 w' : World) (m p : Nat) (X : Int → Nat) (A0 : Nat → Prop) (lp : Nat) (d : DG) (M0 : MgG) (n : Nat) (K0 F C B a : Nat) (Ls : List UpG) (V : Nat → ByteArray) (L : List UpG) (pg : Nat) (S : ByteArray) : Prop where
  ex : ∃ K, GX w0 w' m p X A0 lp d M0 n K0 F C B a Ls (updV V pg S) (K ++ L) ∧ NewK B pg V (updV V pg S) K L

set_option maxHeartbeats 3200000 in
set_option maxRecDepth 20000 in
theorem do_any {w0 : World} {A0 : Nat → Prop} {lp : Nat} {M0 : MgG} {V : Nat → ByteArray} (mb tb : Nat) (hmb : w0.cell? ⟨mb, 0, none⟩ = some (.pointer (some ⟨m, 0, none⟩))) (hnm : ¬ A0 mb) (htb : w0.cell? ⟨tb, 0, none⟩ = some (.int .i64 n)) (hnt : ¬ A0 tb) (h : GX w0 w m p X A0 lp d M0 n K0 F C B a Ls V L) (hU : UndOk V L) (pg : Nat) (h1 : 1 ≤ pg) (h5 : pg ≤ 5) (times : Nat) (ht : times ≤ 4) (mk : UInt8) (hV : (V pg).size ≤ 10) (hF : F + 10000 ≤ 4194304) :
    Calls Tryz.prog 34 #[.int .u32 pg, .int .i64 times, .string ⟨#[mk]⟩, .pointer (some ⟨mb, 0, none⟩), .pointer (some ⟨tb, 0, none⟩)] w fun e w' => e = .returned (.bool true) ∧ DoOut w0 w' m p X A0 lp d M0 n K0 (F + 2000 * times) C B a Ls V L pg (repB (V pg) mk times) := by
  have HBX : Hid (∀ wx F L V, GX w0 wx m p X A0 lp d M0 n K0 F C B a Ls V L → wx.cell? ⟨mb, 0, none⟩ = some (.pointer (some ⟨m, 0, none⟩)) ∧ wx.cell? ⟨tb, 0, none⟩ = some (.int .i64 n)) := fun wx F L V hx => by
    obtain ⟨A, P, l, rs, t, hM, hR, hG, hst, hq, hbF, hP, mv, _⟩ := hx.ex
    exact ⟨(World.cell?_of_block (w := w0) (a := ⟨mb, 0, none⟩) (mv.off (World.block_lt_of_cell? _ _ hmb) hnm).1).trans hmb, (World.cell?_of_block (w := w0) (a := ⟨tb, 0, none⟩) (mv.off (World.block_lt_of_cell? _ _ htb) hnt).1).trans htb⟩
  have H0 : Hid (DoOut w0 w m p X A0 lp d M0 n K0 (F + 2000 * 0) C B a Ls V L pg (repB (V pg) mk 0)) := hidx ⟨[], by rw [show repB (V pg) mk 0 = V pg from rfl, updV_self]; exact h, ⟨fun y hy => by simp at hy, fun y hy => by simp at hy, by rw [show repB (V pg) mk 0 = V pg from rfl, updV_self]; rfl, by rw [show repB (V pg) mk 0 = V pg from rfl, updV_self]; exact hU⟩⟩
  have hpw : IntKind.i64.wrap (pg : Int) = (pg : Int) := by rw [IntKind.wrap_i64]; omega
  clear hmb hnm htb hnt h hU
  go_enter Tryz.func34, Tryz.ntmps34
  go_wp2_with fail
  go_loopw [9] (fun v9 wr => ∃ i : Nat, i ≤ times ∧ v9 = .int .i64 i ∧ Hid (DoOut w0 wr m p X A0 lp d M0 n K0 (F + 2000 * i) C B a Ls V L pg (repB (V pg) mk i))) (fun v _ => times - (intOf v).toNat)
  case atStart => exact ⟨0, by omega, rfl, H0⟩
  case round =>
    obtain ⟨i, hi, rfl, HD⟩ := hrel
    clear H0
    by_cases hlt : i < times
    · obtain ⟨K, hgx, hnk⟩ := HD.out.ex
      have hsz := repB_size (V pg) mk i
      obtain ⟨c0, c1⟩ := HBX.out _ _ _ _ hgx
      obtain ⟨S0, HS0⟩ : ∃ S0, Hid (repB (V pg) mk i = S0) := ⟨_, rfl⟩
      have hget : updV V pg (repB (V pg) mk i) pg = S0 := by rw [updV_get, HS0.out]
      have HSL := hidx (gx_slot hgx pg h1 h5)
      rw [hget] at HSL
      have hS0 : S0.size ≤ 14 := by rw [← HS0.out, hsz]; omega
      have HGX := hidx hgx
      have HNK := hidx hnk
      have hlt' : (i : Int) < (times : Int) := by omega
      clear hgx hnk HD hget
      go_wp2_with fail
      refine HSL.out.mono ?_
      rintro e w2 ⟨rfl, b2⟩
      have G2 := hidx (HGX.out.below b2)
      obtain ⟨c0', c1'⟩ := HBX.out _ _ _ _ G2.out
      obtain ⟨S1, HS1⟩ : ∃ S1 : ByteArray, Hid (S1 = S0 ++ ⟨#[mk]⟩) := ⟨_, rfl⟩
      have h1b : (ByteArray.mk #[mk]).size = 1 := rfl
      have hS1 : S1.size ≤ 15 := by rw [HS1.out, ByteArray.size_append, h1b]; omega
      have hcat : ¬ (9223372036854775807 < S0.size + (ByteArray.mk #[mk]).size) := by rw [h1b]; omega
      have HLO := hidx (gx_log G2.out pg h1 h5 S1 (by omega) (by rw [updV_get, HS0.out]; omega) (by omega))
      rw [updV_get, HS0.out] at HLO
      have HCV : Hid ((setC pg S1 S0).cells = #[.int .u32 pg, .int .i64 4, .int .i64 0, .string S1, .string S0, .int .i64 1, .int .i64 0, .string ⟨#[]⟩, .int .u32 0, .int .i64 0, .bool false]) := rfl
      rw [HCV.out] at HLO
      clear HSL b2 HGX c0 c1 hcat HCV
      go_wp2_with fail
      rw [← HS1.out]
      refine HLO.out.mono ?_
      rintro e w3 ⟨pl, prev, rfl, hpl, g3⟩
      have HD3 : Hid (DoOut w0 w3 m p X A0 lp d M0 n K0 (F + 2000 * (i + 1)) C B a Ls V L pg (repB (V pg) mk (i + 1))) := by
        have e1 : repB (V pg) mk (i + 1) = S1 := by show repB (V pg) mk i ++ ⟨#[mk]⟩ = S1; rw [HS0.out, HS1.out]
        have e2 : updV (updV V pg S0) pg S1 = updV V pg S1 := updV_upd _ _ _ _
        rw [e2, show F + 2000 * i + 2000 = F + 2000 * (i + 1) by omega] at g3
        have e3 : updV (updV V pg S1) pg S0 = updV V pg (repB (V pg) mk i) := by rw [updV_upd, HS0.out]
        refine hidx ⟨⟨⟨pl, S1, S0⟩, pg, prev⟩ :: K, by rw [e1]; exact g3, ⟨fun y hy => ?_, fun y hy => ?_, ?_, ?_⟩⟩
        · rcases List.mem_cons.1 hy with rfl | hy
          · exact hpl
          · exact HNK.out.pls y hy
        · rcases List.mem_cons.1 hy with rfl | hy
          · rfl
          · exact HNK.out.pgs y hy
        · show undV (updV (updV V pg (repB (V pg) mk (i + 1))) pg S0) K = V
          rw [e1, e3]
          exact HNK.out.back
        · refine ⟨by rw [e1, updV_get], h5, ?_⟩
          show UndOk (updV (updV V pg (repB (V pg) mk (i + 1))) pg S0) (K ++ L)
          rw [e1, e3]
          exact HNK.out.ok
      clear HLO HNK g3 hpl G2 c0' c1' HS1 HS0
      go_wp2_with fail
      go_roundw
      case rel => exact ⟨i + 1, by omega, by go_num, HD3⟩
      case measure => simp [intOf]; omega
    · obtain rfl : i = times := by omega
      go_wp2
      go_ret
      exact ⟨rfl, HD.out⟩

end

end Go.Proofs.YtdokafldallnkaaGreat
