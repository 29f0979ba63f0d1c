/-
  A transaction's changes of slots of some pages, with records in between that are not taken back: where undoing goes, and what is owed; plain data.
  A transaction whose chain has records in between: Log, Rollback to a place, Abort.
  .. Rollback to a place, Log, Top, Abort, Commit of such a transaction.
  .. Abort, Commit, Top, Save of such a transaction.
  The closures of girderlaw09.TxnTops; its mathematics.
-/
import Derived.Test.YtjemeopafkafgaaGreatTxNextPJ
import Derived.Test.YtjemeopafkafgaaGreatTxLineJ
import Derived.Test.YtjemeopafkafgaaGreatTxNewJ
import Derived.Test.YtjemeopafkafgaaGreatWalP1J
namespace Go.Proofs.YtjemeopafkafgaaGreat
open Go.RowKit Go.Sort
set_option linter.unusedVariables false
set_option linter.unusedSimpArgs false

/-- A record stands in the log. -/
def RecIn (rs : List ByteArray) (pl : Nat) (r : RecV) : Prop := ∃ i, i < rs.length ∧ placeOf rs i = pl ∧ rs.getD i ⟨#[]⟩ = ⟨(encR r).toArray⟩

theorem RecIn.snoc {rs : List ByteArray} {pl : Nat} {r : RecV} (h : RecIn rs pl r) (x : ByteArray) : RecIn (rs ++ [x]) pl r := by
  obtain ⟨i, h1, h2, h3⟩ := h
  exact ⟨i, by simp; omega, by rw [placeOf_snoc rs x i (by omega)]; exact h2, by rw [← h3, List.getD_eq_getElem?_getD, List.getD_eq_getElem?_getD, List.getElem?_append_left h1]⟩

theorem RecIn.last {l : LG} {rs : List ByteArray} (h : RecsAt l rs) (r : RecV) : RecIn (rs ++ [⟨(encR r).toArray⟩]) (l.bytes.length + 1) r :=
  ⟨rs.length, by simp, by rw [placeOf_snoc rs _ _ (Nat.le_refl _)]; exact h.long.symm, by rw [getD_last]⟩

/-- It can be read as a record of the transaction n. -/
structure RecOk (n : Nat) (r : RecV) : Prop where
  may : mayR r = true
  wide : r.Wide
  prev : r.prev < 18446744073709551616
  next : r.next < 18446744073709551616
  page : r.page < 4294967296
  rpage : r.rpage < 4294967296
  len : (encR r).length ≤ 8192
  ok : ∀ wx ta da, TxsAt wx ta r.txs → DisAt wx da r.dirty → r.Ok wx ta da
  tx : r.tx = n

theorem RecOk.line (n pg prev : Nat) (u : UpV) (hn : n ≤ 2147483647) (h1 : 1 ≤ pg) (h2 : pg ≤ 2048) (hv : prev < 18446744073709551616) (hS : u.S.size ≤ 512) (ho : u.old.size ≤ 512) : RecOk n (lineR n pg prev u) :=
  ⟨lineR_may n pg prev u hn (by omega) hS ho, ⟨fun i hi => by simp [lineR] at hi, fun i hi => by simp [lineR] at hi⟩, hv, by show (0 : Nat) < _; omega, by show pg < _; omega, by show (0 : Nat) < _; omega, by rw [lineR_len n pg prev u hS ho]; omega, fun wx ta da a b => lineR_ok n pg prev u hn h2 hv hS ho wx ta da a b, rfl⟩

theorem RecOk.comp (t : MtV) (n pg : Nat) (u : UpV) (next : Nat) (hn : n ≤ 2147483647) (h1 : 1 ≤ pg) (h2 : pg ≤ 2048) (hl : t.last < 18446744073709551616) (hx : next < 18446744073709551616) (hS : u.S.size ≤ 512) (ho : u.old.size ≤ 512) : RecOk n (recC t n pg (setO u.old u.S) next) := by
  refine ⟨recC_may t n pg u next hn (by omega) hS ho, ⟨fun i hi => by simp [recC] at hi, fun i hi => by simp [recC] at hi⟩, hl, hx, by show pg < _; omega, by show (0 : Nat) < _; omega, by rw [recC_len t n pg u next hS ho]; omega, fun wx ta da a b => ?_, rfl⟩
  have := recC_ok t n pg u next hn h2 hl hx hS ho wx
  exact ⟨this.kind, this.tx, this.prev, this.next, this.page, this.op, this.undo, this.index, this.key, this.rpage, this.rslot, this.tlen, this.dlen, a, b⟩

theorem RecOk.top (t : MtV) (n next : Nat) (hn : n ≤ 2147483647) (hl : t.last < 18446744073709551616) (hx : next < 18446744073709551616) : RecOk n (recT t n next) := by
  refine ⟨recT_may t n next ⟨by omega, by omega⟩, ⟨fun i hi => by simp [recT] at hi, fun i hi => by simp [recT] at hi⟩, hl, hx, by show (0 : Nat) < _; omega, by show (0 : Nat) < _; omega, ?_, fun wx ta da a b => recT_ok t n next ⟨by omega, by omega⟩ hl hx wx ta da a b, rfl⟩
  have := topS_size t n next
  have e : (topS t n next).size = (encR (recT t n next)).length := by show (encR _).toArray.size = _; rw [List.size_toArray]
  omega

/-- From one place undoing comes to another one. -/
def GTo (rs : List ByteArray) (n a e : Nat) : Prop := ∃ path, PathTo a path e ∧ ∀ x ∈ path, RecIn rs x.1 x.2 ∧ RecOk n x.2

theorem PathTo.le : ∀ {path : List (Nat × RecV)} {a e : Nat}, PathTo a path e → e ≤ a
  | [], a, e, h => by have : a = e := h; omega
  | x :: ps, a, e, h => by
    obtain ⟨h1, _, _, h4, h5⟩ := h
    have := PathTo.le h5
    omega

theorem GTo.le {rs : List ByteArray} {n a e : Nat} (h : GTo rs n a e) : e ≤ a := by
  obtain ⟨path, h1, _⟩ := h
  exact h1.le

theorem GTo.refl (rs : List ByteArray) (n a : Nat) : GTo rs n a a := ⟨[], rfl, fun x hx => by simp at hx⟩

theorem GTo.snoc {rs : List ByteArray} {n a e : Nat} (h : GTo rs n a e) (x : ByteArray) : GTo (rs ++ [x]) n a e := by
  obtain ⟨path, h1, h2⟩ := h
  exact ⟨path, h1, fun y hy => ⟨(h2 y hy).1.snoc x, (h2 y hy).2⟩⟩

theorem GTo.over {rs : List ByteArray} {n a e : Nat} {pl : Nat} {r : RecV} (h : GTo rs n a e) (hr : RecIn rs pl r) (ho : RecOk n r) (hu : ¬ (r.kind = 1 ∧ r.undo ≠ 0)) (hl : leadN r = a) (hlt : a < pl) : GTo rs n pl e := by
  obtain ⟨path, h1, h2⟩ := h
  refine ⟨(pl, r) :: path, ⟨rfl, by show pl ≠ 0; omega, hu, by show leadN r < pl; omega, ?_⟩, fun y hy => ?_⟩
  · show PathTo (leadN r) path e
    rw [hl]; exact h1
  · rcases List.mem_cons.1 hy with rfl | hy
    · exact ⟨hr, ho⟩
    · exact h2 y hy

/-- A change of a slot of a page, and where the transaction's record ahead of it stands. -/
structure UpG where
  u : UpV
  pg : Nat
  prev : Nat

def GChain (rs : List ByteArray) (n : Nat) : Nat → List UpG → Prop
  | a, [] => GTo rs n a 0
  | a, x :: xs => GTo rs n a x.u.pl ∧ x.u.pl ≠ 0 ∧ RecIn rs x.u.pl (lineR n x.pg x.prev x.u) ∧ x.prev < x.u.pl ∧ (1 ≤ x.pg ∧ x.pg ≤ 2048) ∧ x.u.S.size ≤ 400 ∧ x.u.old.size ≤ 400 ∧ GChain rs n x.prev xs

def ups (L : List UpG) : List UpV := L.map UpG.u

/-- A transaction: b bytes stand in the log. -/
structure TxG (rs : List ByteArray) (b : Nat) (t : MtV) (n : Nat) (L : List UpG) : Prop where
  chain : GChain rs n t.next L
  lchain : GChain rs n t.last L
  tx : t.tx = n
  debts : t.debts = debtsOf (ups L)
  kept : roomSum (ups L) + cOf t.state ≤ t.kept
  last : t.last ≤ b
  next : t.next ≤ b
  begun : t.begun = true
  nn : n ≤ 2147483647

section
variable {l : LG} {rs : List ByteArray} {b : Nat} {t : MtV} {n pg : Nat} {L xs : List UpG} {x : UpG}

end

end Go.Proofs.YtjemeopafkafgaaGreat

namespace Go.Proofs.YtjemeopafkafgaaGreat
open Go.RowKit Go.Sort
set_option linter.unusedVariables false
set_option linter.unusedSimpArgs false

def updV (V : Nat → ByteArray) (pg : Nat) (s : ByteArray) : Nat → ByteArray := fun k => if k = pg then s else V k

section
variable {w : World} {m p : Nat} {X : Int → Nat} {A : Nat → Prop} {P : PG} {l : LG} {d : DG} {M : MgG} {rs : List ByteArray} {t : MtV} {n : Nat} {L xs : List UpG} {x : UpG} {K0 F : Nat}

theorem read_rec (h : MSys w m p X A P l d M) (hR : RecsAt l rs) (hb : l.bytes.length ≤ 4194304) {pl : Nat} {r : RecV} (hin : RecIn rs pl r) (hok : RecOk n r) :
    Calls Tryz.prog 63 #[.pointer (some ⟨m, 0, none⟩), .int .i64 n, .int .u64 pl] w fun e w' => ∃ ta da tc dc, e = .returned (.tuple #[.agg (r.cells ta da tc dc), .int .i64 0]) ∧ Below w.heap.size w w' := by
  obtain ⟨i, hi, hpl, hrb⟩ := hin
  have hcnt := hR.count
  refine read_ok h n pl (placeOf rs (i + 1)) (rs.getD i ⟨#[]⟩) (fun wz bz => ?_) r (fun wz => ?_) hok.tx
  · obtain ⟨Lg, hLg, _, _⟩ := (h.below bz).log
    have := get_recs hLg hR (by omega) hb i hi
    rw [hpl] at this
    refine this.mono ?_
    rintro e w' ⟨rfl, q, rfl⟩
    exact ⟨rfl, below_drewN (Below.refl _ _) q⟩
  · rw [hrb]
    exact dec_rec _ wz hok.may hok.wide hok.prev hok.next hok.page hok.rpage hok.len hok.ok

end

end Go.Proofs.YtjemeopafkafgaaGreat

namespace Go.Proofs.YtjemeopafkafgaaGreat
open Go.RowKit Go.Sort
set_option linter.unusedVariables false
set_option linter.unusedSimpArgs false

theorem placeOf_ext (rs : List ByteArray) : ∀ (ext : List ByteArray) (i : Nat), i ≤ rs.length → placeOf (rs ++ ext) i = placeOf rs i := by
  intro ext
  induction ext generalizing rs with
  | nil => intro i _; rw [List.append_nil]
  | cons s ext ih =>
    intro i hi
    have := ih (rs ++ [s]) i (by simp; omega)
    rw [List.append_assoc] at this
    rw [show rs ++ s :: ext = rs ++ ([s] ++ ext) from rfl, this, placeOf_snoc rs s i hi]

theorem RecOk.mark (n last : Nat) (k : Int) (hk : 4 ≤ k ∧ k ≤ 6) (hn : n ≤ 2147483647) (hl : last < 18446744073709551616) : RecOk n (recM k n last) := by
  refine ⟨recM_may k n last hk hn, ⟨fun i hi => by simp [recM] at hi, fun i hi => by simp [recM] at hi⟩, hl, by show (0 : Nat) < _; omega, by show (0 : Nat) < _; omega, by show (0 : Nat) < _; omega, by rw [recM_len k n last hk]; omega, fun wx ta da a b => ?_, rfl⟩
  have := recM_ok k n last hk hn hl wx
  exact ⟨this.kind, this.tx, this.prev, this.next, this.page, this.op, this.undo, this.index, this.key, this.rpage, this.rslot, this.tlen, this.dlen, a, b⟩

section
variable {w : World} {m p : Nat} {X : Int → Nat} {A : Nat → Prop} {P : PG} {l : LG} {d : DG} {M : MgG} {rs : List ByteArray} {t : MtV} {n : Nat} {L xs : List UpG} {x : UpG} {K0 F : Nat}

end

end Go.Proofs.YtjemeopafkafgaaGreat

namespace Go.Proofs.YtjemeopafkafgaaGreat
open Go.RowKit Go.Sort
set_option linter.unusedVariables false
set_option linter.unusedSimpArgs false

section
variable {w : World} {m p : Nat} {X : Int → Nat} {A : Nat → Prop} {P : PG} {l : LG} {d : DG} {M : MgG} {rs : List ByteArray} {t : MtV} {n : Nat} {L xs : List UpG} {x : UpG} {K0 F : Nat}

/-- The log behind the end. -/
theorem TxG.ended {rs : List ByteArray} {l : LG} (h : 25 ≤ t.kept) (hR : RecsAt l rs) (hq : l.kept = K0 + t.kept) (hb : l.bytes.length + l.kept ≤ F) : RecsAt (endL l t) (rs ++ [markS 6 t]) ∧ (endL l t).kept = K0 ∧ (endL l t).bytes.length = l.bytes.length + 25 ∧ (endL l t).bytes.length + (endL l t).kept ≤ F := by
  have sz := markS_size 6 t (by omega)
  have e := spend_eqs l t (markS 6 t) 0 (by rw [sz]; omega)
  have hR' := hR.snoc (markS 6 t)
  have hl := putG_len l (markS 6 t)
  have a1 : (endL l t).kept = K0 := by
    unfold endL
    rw [e.1, e.2]
    show l.kept - ((markS 6 t).size + 12) - (t.kept - ((markS 6 t).size + 12)) = K0
    rw [sz]; omega
  have a2 : (endL l t).bytes.length = l.bytes.length + 25 := by
    unfold endL
    rw [e.1, e.2]
    show (putG l (markS 6 t)).bytes.length = _
    rw [hl, sz]
  refine ⟨?_, a1, a2, by rw [a1, a2]; omega⟩
  unfold endL
  rw [e.1, e.2]
  exact ⟨hR'.starts, hR'.long, hR'.text⟩

theorem ended_lok {l : LG} {t : MtV} {d : DG} (h : 25 ≤ t.kept) (hlo : LOk l d) (hb : (endL l t).bytes.length = l.bytes.length + 25) (hm : l.bytes.length + 25 ≤ 4194304) : LOk (endL l t) d := by
  have sz := markS_size 6 t (by omega)
  have e := spend_eqs l t (markS 6 t) 0 (by rw [sz]; omega)
  refine ⟨?_, ?_, by rw [hb]; exact hm, ?_⟩
  · unfold endL; rw [e.1, e.2]; exact hlo.half
  · rw [hb]; have := hlo.fl; unfold endL; rw [e.1, e.2]; show l.flushed ≤ _; omega
  · unfold endL; rw [e.1, e.2]; exact hlo.at'

end

end Go.Proofs.YtjemeopafkafgaaGreat

namespace Go.Proofs.YtjemeopafkafgaaGreat
open Go.RowKit Go.Sort
set_option linter.unusedVariables false
set_option linter.unusedSimpArgs false

theorem updV_self (V : Nat → ByteArray) (pg : Nat) : updV V pg (V pg) = V := by
  funext k
  unfold updV
  by_cases e : k = pg
  · rw [if_pos e, e]
  · rw [if_neg e]

theorem updV_get (V : Nat → ByteArray) (pg : Nat) (s : ByteArray) : updV V pg s pg = s := by simp [updV]

theorem updV_upd (V : Nat → ByteArray) (pg : Nat) (s s' : ByteArray) : updV (updV V pg s) pg s' = updV V pg s' := by
  funext k
  unfold updV
  by_cases e : k = pg
  · rw [if_pos e, if_pos e]
  · rw [if_neg e, if_neg e, if_neg e]

section
variable {w : World} {m p : Nat} {X : Int → Nat} {d : DG} {n : Nat} {L Ls : List UpG} {K0 F C B a : Nat}

end

end Go.Proofs.YtjemeopafkafgaaGreat
