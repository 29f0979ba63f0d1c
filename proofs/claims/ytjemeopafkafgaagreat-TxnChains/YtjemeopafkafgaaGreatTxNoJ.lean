/-
  The manager's calls where there is no such transaction, and of a nil manager.
  A transaction's changes of any kind, each with what takes it back, and records in between that are not taken back; plain data.
  .. where it stands in memory; a step of its going back, whatever takes its records back.
  .. Log, Save, Rollback to a place, Top, Abort, Commit of such a transaction.
  The closure of girderlaw09.back, as what takes records back.
  Up to three transactions of girderlaw09.one, each with a page of its own: plain data.
  Where up to three transactions of girderlaw09.one stand; what each action does.
  .. what each action does.
  Where girderlaw09.one stands: its three boxes beside the manager's blocks.
  The walk of girderlaw09.one: the head.
  The walk of girderlaw09.one: TxOneB.
  The walk of girderlaw09.one: TxOneC.
  The walk of girderlaw09.one: TxOneD.
  The walk of girderlaw09.one: TxOneE.
  The walk of girderlaw09.one: TxOneE0.
-/
import Derived.Test.YtjemeopafkafgaaGreatTxNextJ
import Derived.Test.YtjemeopafkafgaaGreatTxUpdateC
import Derived.Test.YtjemeopafkafgaaGreatTxGJ
import Derived.Test.YtjemeopafkafgaaGreatTxNewJ
import Derived.Test.YtjemeopafkafgaaGreatRowOpsJ
import Derived.Deep.RegionHeld3
import Derived.BigQuiet
namespace Go.Proofs.YtjemeopafkafgaaGreat
open Go.RowKit Go.Sort
set_option linter.unusedVariables false
set_option linter.unusedSimpArgs false

/-- find tells an error. -/
def FindNo (rv : Value) (n : Int) (E : Int) (w : World) : Prop := Calls Tryz.prog 50 #[rv, .int .i64 n] w fun r w' => r = .returned (.tuple #[.pointer none, .int .i64 E]) ∧ w = w'

section
variable {rv : Value} {n E : Int} {w : World}

theorem save_no (h : FindNo rv n E w) (hE : (E == 0) = false) :
    Calls Tryz.prog 15 #[rv, .int .i64 n] w fun e w' => e = .returned (.tuple #[.int .u64 0, .int .i64 E]) ∧ w = w' := by
  have H := hidx h
  clear h
  go_enter Tryz.func15, Tryz.ntmps15
  go_wp2_with fail
  refine H.out.mono ?_
  rintro e w1 ⟨rfl, rfl⟩
  go_wp2
  go_ret2
  exact ⟨rfl, rfl⟩

theorem commit_no (h : FindNo rv n E w) (hE : (E == 0) = false) :
    Calls Tryz.prog 20 #[rv, .int .i64 n] w fun e w' => e = .returned (.int .i64 E) ∧ w = w' := by
  have H := hidx h
  clear h
  go_enter Tryz.func20, Tryz.ntmps20
  go_wp2_with fail
  refine H.out.mono ?_
  rintro e w1 ⟨rfl, rfl⟩
  go_wp2
  go_ret
  exact ⟨rfl, rfl⟩

/-- State of none. -/
theorem state_no (h : ∀ wx, Below w.heap.size w wx → FindNo rv n E wx) (hE : (E == 0) = false) :
    Calls Tryz.prog 18 #[rv, .int .i64 n] w fun e w' => e = .returned (.tuple #[.agg #[.int .i64 0, .int .i64 0, .int .u64 0, .int .u64 0], .bool false]) ∧ Below w.heap.size w w' := by
  have bW : Below w.heap.size w (w.alloc (.cells #[.int .i64 0, .int .i64 0, .int .u64 0, .int .u64 0] 74)) := (Below.refl _ _).alloc (Nat.le_refl _) _
  have HFI := hidx (h _ bW)
  have HBW := hidx bW
  clear h bW
  go_enter Tryz.func18, Tryz.ntmps18
  go_wp2_with fail
  refine HFI.out.mono ?_
  rintro e w2 ⟨rfl, rfl⟩
  go_wp2
  refine bodyPost_ret (v := .tuple #[.agg #[.int .i64 0, .int .i64 0, .int .u64 0, .int .u64 0], .bool false]) (by simp [results, Tryz.results18, go_sem]) rfl ?_
  exact ⟨rfl, HBW.out⟩

end

end Go.Proofs.YtjemeopafkafgaaGreat

namespace Go.Proofs.YtjemeopafkafgaaGreat
open Go.RowKit Go.Sort
set_option linter.unusedVariables false
set_option linter.unusedSimpArgs false

/-- A change: its place, and texts as long as its record is; its record; what takes it back. -/
structure UpN where
  u : UpV
  r : RecV
  inv : OpV

def upn (L : List UpN) : List UpV := L.map UpN.u

/-- The change's record may be, and so may that which takes it back; this one has room enough. -/
structure UpOk (n : Nat) (x : UpN) : Prop where
  kind : x.r.kind = 1
  undo : x.r.undo ≠ 0
  ok : RecOk n x.r
  pg : 1 ≤ x.r.page ∧ x.r.page ≤ 2048
  len : x.u.S.size + x.u.old.size + 25 = (encR x.r).length
  oop : x.r.op.Ok
  iok : x.inv.Ok
  chk : chkB x.inv = true
  clr : ∀ (t : MtV) (next : Nat), t.last < 18446744073709551616 → next < 18446744073709551616 → RecOk n (recC t n x.r.page x.inv next)
  clen : ∀ (t : MtV) (next : Nat), 1 ≤ (compS t n x.r.page x.inv next).size ∧ (compS t n x.r.page x.inv next).size + 12 ≤ 197 + x.u.S.size + x.u.old.size

theorem UpOk.small {n : Nat} {x : UpN} (h : UpOk n x) : x.u.S.size + x.u.old.size ≤ 8167 := by have := h.len; have := h.ok.len; omega

def GChainN (rs : List ByteArray) (n : Nat) : Nat → List UpN → Prop
  | a, [] => GTo rs n a 0
  | a, x :: xs => GTo rs n a x.u.pl ∧ x.u.pl ≠ 0 ∧ RecIn rs x.u.pl x.r ∧ x.r.prev < x.u.pl ∧ UpOk n x ∧ GChainN rs n x.r.prev xs

theorem GChainN.snoc {rs : List ByteArray} {n : Nat} (x : ByteArray) : ∀ {L : List UpN} {a : Nat}, GChainN rs n a L → GChainN (rs ++ [x]) n a L
  | [], _, h => GTo.snoc h x
  | _ :: _, _, ⟨h1, h2, h3, h4, h5, h6⟩ => ⟨h1.snoc x, h2, h3.snoc x, h4, h5, h6.snoc x⟩

theorem GChainN.plOf {rs : List ByteArray} {n : Nat} : ∀ {L : List UpN} {a : Nat}, GChainN rs n a L → Go.Proofs.YtjemeopafkafgaaGreat.plOf (upn L) ≤ a
  | [], _, _ => Nat.zero_le _
  | _ :: _, _, h => h.1.le

theorem GChainN.falls {rs : List ByteArray} {n : Nat} : ∀ {L : List UpN} {a : Nat}, GChainN rs n a L → FallsL (upn L)
  | [], _, _ => trivial
  | x :: xs, _, ⟨h1, h2, h3, h4, h5, h6⟩ => ⟨by have := h6.plOf; show Go.Proofs.YtjemeopafkafgaaGreat.plOf (upn xs) < x.u.pl; omega, h6.falls⟩

theorem GChainN.over {rs : List ByteArray} {n : Nat} {pl a : Nat} {r : RecV} (hr : RecIn rs pl r) (ho : RecOk n r) (hu : ¬ (r.kind = 1 ∧ r.undo ≠ 0)) (hl : leadN r = a) (hlt : a < pl) : ∀ {L : List UpN}, GChainN rs n a L → GChainN rs n pl L
  | [], h => GTo.over h hr ho hu hl hlt
  | _ :: _, ⟨h1, h2, h3⟩ => ⟨h1.over hr ho hu hl hlt, h2, h3⟩

/-- The part of a chain from a place on. -/
theorem GChainN.drop {rs : List ByteArray} {n : Nat} : ∀ (K : List UpN) {xs : List UpN} {a : Nat}, GChainN rs n a (K ++ xs) → ∃ b, b ≤ a ∧ GChainN rs n b xs
  | [], _, a, h => ⟨a, Nat.le_refl _, h⟩
  | x :: K, _, a, ⟨h1, _, _, h4, _, h6⟩ => by
    obtain ⟨b, hb, h⟩ := GChainN.drop K h6
    exact ⟨b, by have := h1.le; omega, h⟩

/-- From the place of the first change itself. -/
theorem GChainN.head {rs : List ByteArray} {n a : Nat} : ∀ {L : List UpN}, GChainN rs n a L → GChainN rs n (Go.Proofs.YtjemeopafkafgaaGreat.plOf (upn L)) L
  | [], _ => GTo.refl _ _ _
  | _ :: _, ⟨_, h2⟩ => ⟨GTo.refl _ _ _, h2⟩

theorem GChainN.ok {rs : List ByteArray} {n : Nat} : ∀ {L : List UpN} {a : Nat}, GChainN rs n a L → ∀ x ∈ L, UpOk n x ∧ 0 < x.u.pl
  | [], _, _, x, hx => by simp at hx
  | y :: ys, _, ⟨_, h2, _, _, h5, h6⟩, x, hx => by
    rcases List.mem_cons.1 hx with rfl | hx
    · exact ⟨h5, by omega⟩
    · exact h6.ok x hx

structure TxN (rs : List ByteArray) (b : Nat) (t : MtV) (n : Nat) (L : List UpN) : Prop where
  chain : GChainN rs n t.next L
  lchain : GChainN rs n t.last L
  tx : t.tx = n
  debts : t.debts = debtsOf (upn L)
  kept : roomSum (upn L) + cOf t.state ≤ t.kept
  last : t.last ≤ b
  next : t.next ≤ b
  begun : t.begun = true
  nn : n ≤ 2147483647

section
variable {l : LG} {rs : List ByteArray} {b : Nat} {t : MtV} {n pg : Nat} {L xs : List UpN} {x : UpN}

theorem TxN.start (rs : List ByteArray) (b n : Nat) (hn : n ≤ 2147483647) : TxN rs b (fresh n) n [] :=
  ⟨GTo.refl _ _ _, GTo.refl _ _ _, rfl, rfl, by show 0 + 50 ≤ 128; omega, Nat.zero_le _, Nat.zero_le _, rfl, hn⟩

theorem TxN.snoc (h : TxN rs b t n L) (s : ByteArray) {b' : Nat} (hb : b ≤ b') : TxN (rs ++ [s]) b' t n L :=
  ⟨h.chain.snoc s, h.lchain.snoc s, h.tx, h.debts, h.kept, Nat.le_trans h.last hb, Nat.le_trans h.next hb, h.begun, h.nn⟩

theorem TxN.ext {b' : Nat} (h : TxN rs b t n L) (hb : b ≤ b') : ∀ ext : List ByteArray, TxN (rs ++ ext) b' t n L := by
  intro ext
  induction ext generalizing rs with
  | nil => rw [List.append_nil]; exact ⟨h.chain, h.lchain, h.tx, h.debts, h.kept, Nat.le_trans h.last hb, Nat.le_trans h.next hb, h.begun, h.nn⟩
  | cons s ext ih =>
    have := ih (h.snoc s (Nat.le_refl b))
    rw [List.append_assoc] at this
    exact this

theorem TxN.at {b : Nat} (h : TxN rs b t n (x :: xs)) : TxN rs b { t with next := x.u.pl } n (x :: xs) := by
  obtain ⟨g1, g2⟩ := h.chain
  exact ⟨⟨GTo.refl _ _ _, g2⟩, h.lchain, h.tx, h.debts, h.kept, h.last, Nat.le_trans g1.le h.next, h.begun, h.nn⟩

/-- The record of a change, when the transaction's last record stands at a place. -/
def recN (n last : Nat) (c : ChgV) : RecV := ⟨1, n, last, 0, c.page, c.op, c.undo, c.index, c.key, c.rpage, c.rslot, c.live, [], []⟩

theorem recU_eq {t : MtV} {n : Nat} (h : t.tx = n) (c : ChgV) : recU t c = recN n t.last c := by unfold recU recN; rw [h]

theorem TxN.log {c : ChgV} (h : TxN rs l.bytes.length t n L) (hR : RecsAt l rs) (hst : t.state = 1) (hx : x.r = recN n t.last c) (hpl : x.u.pl = l.bytes.length + 1) (hu : UpOk n x) {b' : Nat} (hb' : l.bytes.length + 1 ≤ b') :
    TxN (rs ++ [logS t c]) b' (logT t c (l.bytes.length + 1)) n (x :: L) := by
  have hla := h.last
  have e : logS t c = ⟨(encR x.r).toArray⟩ := by
    show ByteArray.mk (encR (recU t c)).toArray = _
    rw [recU_eq h.tx, hx]
  have sz : (logS t c).size = 25 + x.u.S.size + x.u.old.size := by
    rw [e]
    show (encR x.r).toArray.size = _
    rw [List.size_toArray]
    have := hu.len
    omega
  have hin : RecIn (rs ++ [logS t c]) x.u.pl x.r := by rw [hpl, e]; exact RecIn.last hR _
  have hprev : x.r.prev = t.last := by rw [hx]; rfl
  have hch : GChainN (rs ++ [logS t c]) n (l.bytes.length + 1) (x :: L) :=
    ⟨by rw [hpl]; exact GTo.refl _ _ _, by omega, hin, by omega, hu, by rw [hprev]; exact h.lchain.snoc _⟩
  have hstn : standN t.debts (l.bytes.length + 1) = (upn L).length := by rw [h.debts]; exact stand_line h.chain.falls (by have := h.chain.plOf; have := h.next; omega)
  refine ⟨hch, hch, h.tx, ?_, ?_, hb', hb', h.begun, h.nn⟩
  · show t.debts ++ [_] = debtsOf (upn L) ++ [_]
    rw [hstn, h.debts, owed_line, sz]
    show debtsOf (upn L) ++ [DbV.mk _ _] = debtsOf (upn L) ++ [DbV.mk x.u.pl (roomSum (upn L) + (197 + x.u.S.size + x.u.old.size))]
    rw [hpl, show roomSum (upn L) + (25 + x.u.S.size + x.u.old.size + 172) = roomSum (upn L) + (197 + x.u.S.size + x.u.old.size) by omega]
  · have := h.kept
    show roomSum (upn L) + (197 + x.u.S.size + x.u.old.size) + cOf t.state ≤ t.kept + ((logS t c).size + 172)
    rw [sz]; omega

theorem TxN.comp (h : TxN rs l.bytes.length t n (x :: xs)) (hR : RecsAt l rs) (hb : l.bytes.length ≤ 4194304) {t' : MtV} {cz : Nat} (hcz : (compS t n x.r.page x.inv x.r.prev).size = cz) (ht : t' = { t with kept := t.kept - (cz + 12), last := l.bytes.length + 1, next := x.r.prev, debts := debtsOf (upn xs) }) {b' : Nat} (hb' : l.bytes.length + 1 ≤ b') :
    TxN (rs ++ [compS t n x.r.page x.inv x.r.prev]) b' t' n xs := by
  obtain ⟨g1, g2, g3, g4, g5, g8⟩ := h.chain
  have hla := h.last
  have hnx := h.next
  have hnn := h.nn
  have hle := g1.le
  have hcl := (g5.clen t x.r.prev).2
  have hk : roomSum (upn xs) + (197 + x.u.S.size + x.u.old.size) + cOf t.state ≤ t.kept := h.kept
  have hin : RecIn (rs ++ [compS t n x.r.page x.inv x.r.prev]) (l.bytes.length + 1) (recC t n x.r.page x.inv x.r.prev) := RecIn.last hR _
  have hch := g8.snoc (compS t n x.r.page x.inv x.r.prev)
  subst ht
  refine ⟨hch, GChainN.over (a := x.r.prev) hin (g5.clr t x.r.prev (by omega) (by omega)) (fun e => by have : (2 : Int) = 1 := e.1; omega) rfl (by omega) hch, h.tx, rfl, ?_, hb', ?_, h.begun, hnn⟩
  · show roomSum (upn xs) + cOf t.state ≤ t.kept - (cz + 12); omega
  · show x.r.prev ≤ b'; omega

theorem TxN.top {K : List UpN} {next : Nat} (h : TxN rs l.bytes.length t n (K ++ xs)) (hR : RecsAt l rs) (hb : l.bytes.length ≤ 4194304) (hc : GChainN rs n next xs) (hnx : next ≤ t.next) {t' : MtV} {kp : Nat} (ht : t' = { t with kept := kp, last := l.bytes.length + 1, next := next, debts := debtsOf (upn xs) }) (hk : roomSum (upn xs) + cOf t.state ≤ kp) {b' : Nat} (hb' : l.bytes.length + 1 ≤ b') :
    TxN (rs ++ [topS t n next]) b' t' n xs := by
  have hla := h.last
  have hn2 := h.next
  have hnn := h.nn
  have hin : RecIn (rs ++ [topS t n next]) (l.bytes.length + 1) (recT t n next) := RecIn.last hR _
  have hch := hc.snoc (topS t n next)
  subst ht
  refine ⟨hch, GChainN.over (a := next) hin (RecOk.top t n next hnn (by omega) (by omega)) (fun e => by have : (3 : Int) = 1 := e.1; omega) rfl (by omega) hch, h.tx, rfl, hk, hb', ?_, h.begun, hnn⟩
  show next ≤ b'; omega

end

end Go.Proofs.YtjemeopafkafgaaGreat

namespace Go.Proofs.YtjemeopafkafgaaGreat
open Go.RowKit Go.Sort
set_option linter.unusedVariables false
set_option linter.unusedSimpArgs false

/-- Two pages say the same. -/
structure SameC (a b : SheetV) : Prop where
  kind : a.kind = b.kind
  head : a.head = b.head
  slots : a.slots = b.slots

/-- The pages of D are V. -/
structure PgN (lp z : Nat) (D : Nat → Prop) (P : PG) (V : Nat → SheetV) : Prop where
  at' : ∀ pg, D pg → ∃ f, P.F pg = some f ∧ f.sh.Fits ∧ f.sh.num = pg ∧ SameC f.sh (V pg)
  z : P.z ≤ z
  lp' : P.lp = lp

theorem PgN.put {lp z : Nat} {D : Nat → Prop} {P : PG} {V V' : Nat → SheetV} (h : PgN lp z D P V) {q : SheetV} {pg lsn : Nat} {f : FrV} (hf : P.F pg = some f) (hn : q.num = pg) (hfit : ({ q with lsn := lsn } : SheetV).Fits) (hs : SameC q (V' pg)) (ho : ∀ k, k ≠ pg → V' k = V k) : PgN lp z D (putP P { q with lsn := lsn }) V' := by
  refine ⟨fun k hk => ?_, ?_, h.lp'⟩
  · by_cases e : k = pg
    · subst e
      refine ⟨⟨{ q with lsn := lsn }, sinceF (oldS P q.num) lsn⟩, ?_, hfit, hn, hs.kind, hs.head, hs.slots⟩
      show setFr P.F q.num _ k = _
      rw [hn]
      simp [setFr]
    · obtain ⟨g, a1, a2, a3, a4⟩ := h.at' k hk
      refine ⟨g, ?_, a2, a3, by rw [ho k e]; exact a4⟩
      show setFr P.F q.num _ k = _
      rw [hn]
      simp only [setFr, if_neg e]
      exact a1
  · show (if (P.F q.num).isSome = true then P.z else _) ≤ _
    rw [hn, hf]
    exact h.z

/-- A change of a page, whatever its LSN: V becomes V'. -/
structure DoesN (D : Nat → Prop) (V : Nat → SheetV) (pg : Nat) (o : OpV) (V' : Nat → SheetV) : Prop where
  dom : D pg
  do' : ∀ s : SheetV, s.Fits → s.num = pg → SameC s (V pg) → ∃ q, ChangeDoes s o 0 q ∧ q.num = pg ∧ q.slots ≠ [] ∧ SameC q (V' pg) ∧ ∀ lsn, lsn < 18446744073709551616 → ({ q with lsn := lsn } : SheetV).Fits
  oth : ∀ k, k ≠ pg → V' k = V k

/-- All is taken back, one behind the other: V becomes V'; CL: what is asked of each change and its page. -/
def UndN (CL : UpN → SheetV → Prop) (D : Nat → Prop) : (Nat → SheetV) → List UpN → (Nat → SheetV) → Prop
  | V, [], V' => V = V'
  | V, x :: xs, V' => ∃ V1, DoesN D V x.r.page x.inv V1 ∧ (∀ s : SheetV, s.Fits → s.num = x.r.page → SameC s (V x.r.page) → CL x s) ∧ UndN CL D V1 xs V'

/-- What is kept of the log beside: closed under what a transaction n writes. -/
structure JOk (n : Nat) (J : List ByteArray → Nat → List UpN → Prop) : Prop where
  log : ∀ {rs : List ByteArray} {last : Nat} {L : List UpN} {x : UpN} {l : LG}, RecsAt l rs → J rs last L → UpOk n x → x.r.prev = last → x.u.pl = l.bytes.length + 1 → J (rs ++ [⟨(encR x.r).toArray⟩]) (l.bytes.length + 1) (x :: L)
  comp : ∀ {rs : List ByteArray} {last : Nat} {xs : List UpN} {x : UpN} {l : LG} (r : RecV), RecsAt l rs → J rs last (x :: xs) → UpOk n x → RecOk n r → r.kind = 2 → r.prev = last → r.next = x.r.prev → J (rs ++ [⟨(encR r).toArray⟩]) (l.bytes.length + 1) xs
  mark : ∀ {rs : List ByteArray} {last : Nat} {L : List UpN} {l : LG} (r : RecV), RecsAt l rs → J rs last L → RecOk n r → 3 < r.kind → r.prev = last → J (rs ++ [⟨(encR r).toArray⟩]) (l.bytes.length + 1) L
  top : ∀ {rs : List ByteArray} {last : Nat} {K xs : List UpN} {l : LG} (r : RecV), RecsAt l rs → J rs last (K ++ xs) → RecOk n r → r.kind = 3 → r.prev = last → J (rs ++ [⟨(encR r).toArray⟩]) (l.bytes.length + 1) xs

/-- Where a transaction stands: K0 is kept for others; e: undoing goes on at its last change. -/
structure GN (w0 wx : World) (m p : Nat) (X : Int → Nat) (A0 : Nat → Prop) (lp z : Nat) (d : DG) (M0 : MgG) (rs0 : List ByteArray) (n K0 F : Nat) (st : Int) (e : Prop) (D : Nat → Prop) (V : Nat → SheetV) (J : List ByteArray → Nat → List UpN → Prop) (L : List UpN) : Prop where
  ex : ∃ A P l rs t ext, MSys wx m p X A P l d (M0.set n t) ∧ RecsAt l rs ∧ TxN rs l.bytes.length t n L ∧ t.state = st ∧ l.kept = K0 + t.kept ∧ l.bytes.length + l.kept ≤ F ∧ PgN lp z D P V ∧ Moves A0 A w0 wx ∧ rs = rs0 ++ ext ∧ LOk l d ∧ J rs t.last L ∧ (e → t.next = plOf (upn L))

/-- What takes records back: B says where its variables stand. -/
structure Clo (m p : Nat) (X : Int → Nat) (d : DG) (n : Nat) (fn : FuncId) (cap : Value) (B : World → (Nat → Prop) → Prop) (CL : UpN → SheetV → Prop) : Prop where
  moves : ∀ {wx wy : World} {A A' : Nat → Prop}, B wx A → Moves A A' wx wy → B wy A'
  enter : ∀ (v : Value) (wx : World), (callFunc fn #[.int .i64 n, v, cap]).run Tryz.prog wx = .ok (.enter fn #[.int .i64 n, v, cap]) wx
  call : ∀ {wz : World} {A1 : Nat → Prop} {P1 : PG} {l1 : LG} {M1 : MgG} (x : UpN) (f : FrV) (ta da : Option Addr) (tc dc at' : Nat) (P' : PG) (l' : LG) (M' : MgG), MSys wz m p X A1 P1 l1 d M1 → B wz A1 → UpOk n x → P1.F x.r.page = some f → f.sh.Fits → f.sh.num = x.r.page → CL x f.sh →
    (∀ wx, Below wz.heap.size wz wx → Calls Tryz.prog 76 #[.pointer (some ⟨m, 0, none⟩), .int .i64 n, .int .u32 x.r.page, x.inv.val, .int .u64 x.r.prev] wx fun e w' => e = .returned (.tuple #[.int .u64 at', .int .i64 0]) ∧ ∃ A', MSys w' m p X A' P' l' d M' ∧ Moves A1 A' wx w') →
    Calls Tryz.prog fn #[.int .i64 n, .agg (x.r.cells ta da tc dc), cap] wz fun e w' => e = .returned (.int .i64 0) ∧ ∃ A', MSys w' m p X A' P' l' d M' ∧ Moves A1 A' wz w'

section
variable {w w0 wx : World} {m p lp z : Nat} {X : Int → Nat} {A A0 : Nat → Prop} {P : PG} {l : LG} {d : DG} {M M0 : MgG} {rs rs0 : List ByteArray} {t : MtV} {n : Nat} {L xs : List UpN} {x : UpN} {K0 F : Nat} {st : Int} {e0 : Prop} {D : Nat → Prop} {V V' : Nat → SheetV} {J : List ByteArray → Nat → List UpN → Prop} {fn : FuncId} {cap : Value} {B : World → (Nat → Prop) → Prop} {CL : UpN → SheetV → Prop}

theorem GN.weak (h : GN w0 wx m p X A0 lp z d M0 rs0 n K0 F st e0 D V J L) : GN w0 wx m p X A0 lp z d M0 rs0 n K0 F st False D V J L := by
  obtain ⟨A, P, l, rs, t, ext, hM, hR, hG, hst, hq, hbF, hP, mv, hext, hlo, hj, _⟩ := h.ex
  exact ⟨A, P, l, rs, t, ext, hM, hR, hG, hst, hq, hbF, hP, mv, hext, hlo, hj, fun x => x.elim⟩

set_option maxHeartbeats 800000 in
set_option maxRecDepth 20000 in
theorem gn_step {to' : Nat} (hclo : Clo m p X d n fn cap B CL) (hJ : JOk n J) (hB : ∀ A, (∀ k, A k → A0 k ∨ w0.heap.size ≤ k) → Moves A0 A w0 wx → B wx A) (hz : z ≤ 1000000) (h : GN w0 wx m p X A0 lp z d M0 rs0 n K0 F st e0 D V J (x :: xs)) (hF : F ≤ 4194304) (hto : to' < x.u.pl) (hD : DoesN D V x.r.page x.inv V') (hCL : ∀ s : SheetV, s.Fits → s.num = x.r.page → SameC s (V x.r.page) → CL x s) :
    Calls Tryz.prog 17 #[.pointer (some ⟨m, 0, none⟩), .int .i64 n] wx (RollNx m n to' fn cap fun w' => GN w0 w' m p X A0 lp z d M0 rs0 n K0 F st False D V' J xs) := by
  obtain ⟨A, P, l, rs, t0, ext, hM, hR, hG0, hst0, hq0, hbF, hP, mv, hext, hlo, hj0, _⟩ := h.ex
  have hBx : B wx A := hB A mv.2 mv
  have hb : l.bytes.length + l.kept ≤ 4194304 := by omega
  obtain ⟨⟨path, hpath, hpr⟩, hpl0, hrin, hprev, hup, hch⟩ := hG0.chain
  have hnn := hG0.nn
  have hsm := hup.small
  have hlast0 := hG0.last
  have hnx0 := hG0.next
  have hfal := hG0.chain.falls
  have hplle : x.u.pl ≤ t0.next := hpath.le
  have hcnt := hR.count
  have hst' := hR.len
  have hG := hG0.at
  have hdl : t0.debts.length ≤ 1000000 := by rw [hG0.debts, debts_length]; have h5 := room_len (upn (x :: xs)); have h6 := hG0.kept; omega
  have hrise : RisesD t0.debts := by rw [hG0.debts]; exact debts_rise hfal
  have hNX := next_path hM n (by omega) (by omega) (MgG.set_get M0 n t0) x.u.pl path hpath hpl0 hrise hdl x.r hup.kind hup.undo (fun y hy wz bz => read_rec (hM.below bz) hR (by omega) (hpr y hy).1 (hpr y hy).2) (fun wz bz => read_rec (hM.below bz) hR (by omega) hrin hup.ok)
  have htt : ({ t0 with next := x.u.pl, debts := t0.debts.take (standN t0.debts x.u.pl) } : MtV) = { t0 with next := x.u.pl } := by
    have e0 : standN (debtsOf (upn (x :: xs))) x.u.pl = (upn (x :: xs)).length := stand_line hfal (Nat.le_refl _)
    rw [hG0.debts, e0, take_all, ← hG0.debts]
  obtain ⟨t, Ht⟩ : ∃ t, Hid (({ t0 with next := x.u.pl } : MtV) = t) := ⟨_, rfl⟩
  rw [htt, MgG.set_set, Ht.out] at hNX
  rw [Ht.out] at hG
  have hst : t.state = st := by rw [← Ht.out]; exact hst0
  have hq : l.kept = K0 + t.kept := by rw [← Ht.out]; exact hq0
  have hj : J rs t.last (x :: xs) := by rw [← Ht.out]; exact hj0
  have hnx : t.next = x.u.pl := by rw [← Ht.out]
  have hlast := hG.last
  have hk : roomSum (upn xs) + (197 + x.u.S.size + x.u.old.size) + cOf t.state ≤ t.kept := hG.kept
  have hdl1 : t.debts.length ≤ 1000000 := by rw [← Ht.out]; exact hdl
  have hrise1 : RisesD t.debts := by rw [← Ht.out]; exact hrise
  have hcs := cOf_le t.state
  clear htt hst0 hq0 hlast0 hdl hrise hj0
  refine hNX.mono ?_
  rintro e w1 ⟨⟨ta, da, tc, dc, rfl⟩, A1, g1, mv1⟩
  refine ⟨⟨x.r, ta, da, tc, dc, x.u.pl, rfl, hto, ⟨fun wy hwy => ?_⟩⟩⟩
  have by1 : Below w1.heap.size w1 wy := by rw [hwy]; exact (Below.refl _ _).alloc (Nat.le_refl _) _
  have xy : BlkR wy w1.heap.size (x.r.cells ta da tc dc) 56 := by rw [hwy]; exact Blk.made _ _ _
  have gy := g1.below by1
  have hB1 : B w1 A1 := hclo.moves hBx mv1
  have hBy : ∀ wz, Below w1.heap.size w1 wz → B wz A1 := fun wz bz => hclo.moves hB1 (Moves.of_kept (Kept.of_below bz))
  obtain ⟨f, hfF, hfit, hnum, hsame⟩ := hP.at' x.r.page hD.dom
  obtain ⟨q, hdo, hqn, hqs, hqsame, hqfit⟩ := hD.do' f.sh hfit hnum hsame
  obtain ⟨cz, Hcz⟩ : ∃ cz, Hid ((compS t n x.r.page x.inv x.r.prev).size = cz) := ⟨_, rfl⟩
  have csz := Hcz.out
  have hcl := hup.clen t x.r.prev
  rw [csz] at hcl
  have hro := hup.clr t x.r.prev (by omega) (by omega)
  have hrl : cz ≤ 8192 := by rw [← csz]; show (encR _).toArray.size ≤ _; rw [List.size_toArray]; exact hro.len
  have hpp : plOf (upn xs) ≤ x.r.prev := hch.plOf
  have est : standN t.debts x.r.prev = (upn xs).length := by
    rw [hG.debts]
    unfold standN
    show ((debtsOf (upn xs) ++ [_]).takeWhile _).length = _
    rw [List.takeWhile_append_of_pos (fun q hq => by have := debts_mem hch.falls q hq; simp; omega)]
    have h2 : decide (x.u.pl ≤ x.r.prev) = false := by simp; omega
    simp [List.takeWhile, h2, debts_length]
  have eow : owedN t.debts (standN t.debts x.r.prev) = roomSum (upn xs) := by rw [est, hG.debts]; exact owed_tail x.u (upn xs)
  have ecn : compN t x.r.prev = roomSum (upn xs) + cOf t.state := by
    unfold compN wayN cOf
    rw [hG.begun, if_pos rfl, eow]
    split <;> rfl
  have hlen1 : (upn xs).length < t.debts.length := by rw [hG.debts, debts_length]; show (upn xs).length < (upn xs).length + 1; omega
  have esp := spend_eqs l t (compS t n x.r.page x.inv x.r.prev) (compN t x.r.prev) (by rw [csz, ecn]; omega)
  have hqf := hqfit (l.bytes.length + 1) (by omega)
  have hcomp : ∀ wz, Below w1.heap.size w1 wz → Calls Tryz.prog 76 #[.pointer (some ⟨m, 0, none⟩), .int .i64 n, .int .u32 x.r.page, x.inv.val, .int .u64 x.r.prev] wz fun e w' => e = .returned (.tuple #[.int .u64 ((l.bytes.length + 1 : Nat) : Int), .int .i64 0]) ∧ ∃ A', MSys w' m p X A' (putP P { q with lsn := l.bytes.length + 1 }) (spendL l t (compS t n x.r.page x.inv x.r.prev) (compN t x.r.prev)) d (M0.set n (compT l t (compS t n x.r.page x.inv x.r.prev) x.r.prev)) ∧ Moves A1 A' wz w' := fun wz bz => by
    have := comp_ok (g1.below bz) n (by omega) (by omega) (MgG.set_get M0 n t) x.r.page x.inv x.r.prev (fun wq => hro.ok wq none none (.inl rfl) (.inl rfl)) hro.may (by rw [csz]; omega) hup.pg.1 hup.pg.2 hfF hfit hup.iok hup.chk hdo hqf hqn hqs (by have := hP.z; omega) (by omega) hrise1 hdl1 (by rw [est]; right; exact hlen1) (by rw [eow]; omega) (by omega) (by rw [csz]; omega) (by rw [csz, ecn]; omega) (.inl (by rw [csz, ecn]; omega))
    rw [MgG.set_set] at this
    exact this
  have hask := ask_any gy n x.r ta da tc dc fn cap (putP P { q with lsn := l.bytes.length + 1 }) (spendL l t (compS t n x.r.page x.inv x.r.prev) (compN t x.r.prev)) (M0.set n (compT l t (compS t n x.r.page x.inv x.r.prev) x.r.prev)) (fun wz => hclo.enter _ wz) (fun wz bz => by
    have bz1 := below_chain by1 bz
    exact hclo.call x f ta da tc dc (l.bytes.length + 1) _ _ _ (g1.below bz1) (hBy wz bz1) hup hfF hfit hnum (hCL f.sh hfit hnum hsame) (fun wq bq => hcomp wq (below_chain bz1 bq)))
  refine hask.mono ?_
  rintro e w2 ⟨rfl, A2, g2, mv2⟩
  have hbox : ¬ A1 w1.heap.size := fun x => by have := g1.lt _ x; omega
  refine ⟨rfl, xy.same (mv2.off xy.lt hbox).1, ?_⟩
  have htn : (compT l t (compS t n x.r.page x.inv x.r.prev) x.r.prev).next = x.r.prev := rfl
  have hPS := pass_other g2 n (by omega) (by omega) (MgG.set_get M0 n _) x.u.pl x.r.prev (by rw [htn]; omega)
  refine hidx (hPS.mono ?_)
  rintro e w3 ⟨rfl, rfl⟩
  have htG : compT l t (compS t n x.r.page x.inv x.r.prev) x.r.prev = { t with kept := t.kept - (cz + 12), last := l.bytes.length + 1, next := x.r.prev, debts := debtsOf (upn xs) } := by
    unfold compT
    rw [esp.2, est, hG.debts, csz]
    show ({ t with kept := _, last := _, next := _, debts := (debtsOf (x.u :: upn xs)).take (upn xs).length } : MtV) = _
    rw [take_tail]
  have hlen' : (spendL l t (compS t n x.r.page x.inv x.r.prev) (compN t x.r.prev)).bytes.length = l.bytes.length + (cz + 12) := by
    rw [esp.1]; show (putG l _).bytes.length = _; rw [putG_len, csz]
  have hkp' : (spendL l t (compS t n x.r.page x.inv x.r.prev) (compN t x.r.prev)).kept = l.kept - (cz + 12) := by
    rw [esp.1]; show l.kept - _ = _; rw [csz]
  have hR' : RecsAt (spendL l t (compS t n x.r.page x.inv x.r.prev) (compN t x.r.prev)) (rs ++ [compS t n x.r.page x.inv x.r.prev]) := by
    rw [esp.1]
    have := hR.snoc (compS t n x.r.page x.inv x.r.prev)
    exact ⟨this.starts, this.long, this.text⟩
  refine ⟨rfl, ⟨A2, _, _, rs ++ [compS t n x.r.page x.inv x.r.prev], _, ext ++ [compS t n x.r.page x.inv x.r.prev], g2, hR', ?_, hst, ?_, ?_, hP.put hfF hqn hqf hqsame hD.oth, (mv.trans mv1).trans ((Moves.of_kept (Kept.of_below by1)).trans mv2), by rw [hext, List.append_assoc], ?_, ?_, fun x => x.elim⟩⟩
  · exact hG.comp hR (by omega) csz htG (by rw [hlen']; omega)
  · rw [hkp', htG]; show _ = K0 + (t.kept - _); omega
  · rw [hlen', hkp']; omega
  · exact ⟨hlo.half, by rw [hlen']; have := hlo.fl; show l.flushed ≤ _; omega, by rw [hlen']; omega, hlo.at'⟩
  · rw [htG]
    exact hJ.comp (recC t n x.r.page x.inv x.r.prev) hR hj hup hro rfl rfl rfl

theorem gn_end {to' : Nat} (h : GN w0 wx m p X A0 lp z d M0 rs0 n K0 F st e0 D V J (x :: xs)) (hF : F ≤ 4194304) (hto : x.u.pl ≤ to') :
    Calls Tryz.prog 17 #[.pointer (some ⟨m, 0, none⟩), .int .i64 n] wx (RollEnd to' fun w' => GN w0 w' m p X A0 lp z d M0 rs0 n K0 F st True D V J (x :: xs)) := by
  obtain ⟨A, P, l, rs, t0, ext, hM, hR, hG0, hst0, hq0, hbF, hP, mv, hext, hlo, hj, _⟩ := h.ex
  have hb : l.bytes.length + l.kept ≤ 4194304 := by omega
  obtain ⟨⟨path, hpath, hpr⟩, hpl0, hrin, hprev, hup, hch⟩ := hG0.chain
  have hnn := hG0.nn
  have hnx0 := hG0.next
  have hfal := hG0.chain.falls
  have hplle : x.u.pl ≤ t0.next := hpath.le
  have hdl : t0.debts.length ≤ 1000000 := by rw [hG0.debts, debts_length]; have h5 := room_len (upn (x :: xs)); have h6 := hG0.kept; omega
  have hrise : RisesD t0.debts := by rw [hG0.debts]; exact debts_rise hfal
  have hNX := next_path hM n (by omega) (by omega) (MgG.set_get M0 n t0) x.u.pl path hpath hpl0 hrise hdl x.r hup.kind hup.undo (fun y hy wz bz => read_rec (hM.below bz) hR (by omega) (hpr y hy).1 (hpr y hy).2) (fun wz bz => read_rec (hM.below bz) hR (by omega) hrin hup.ok)
  have htt : ({ t0 with next := x.u.pl, debts := t0.debts.take (standN t0.debts x.u.pl) } : MtV) = { t0 with next := x.u.pl } := by
    have e0 : standN (debtsOf (upn (x :: xs))) x.u.pl = (upn (x :: xs)).length := stand_line hfal (Nat.le_refl _)
    rw [hG0.debts, e0, take_all, ← hG0.debts]
  rw [htt, MgG.set_set] at hNX
  refine hNX.mono ?_
  rintro e w1 ⟨⟨ta, da, tc, dc, rfl⟩, A1, g1, mv1⟩
  have by1 : Below w1.heap.size w1 (w1.alloc (.cells (x.r.cells ta da tc dc) 56)) := (Below.refl _ _).alloc (Nat.le_refl _) _
  exact ⟨⟨_, ta, da, tc, dc, x.u.pl, rfl, hto, ⟨A1, P, l, rs, _, ext, g1.below by1, hR, hG0.at, hst0, hq0, hbF, hP, (mv.trans mv1).trans (Moves.of_kept (Kept.of_below by1)), hext, hlo, hj, fun _ => rfl⟩⟩⟩

theorem gn_end0 {to' : Nat} (h : GN w0 wx m p X A0 lp z d M0 rs0 n K0 F st e0 D V J []) (hF : F ≤ 4194304) :
    Calls Tryz.prog 17 #[.pointer (some ⟨m, 0, none⟩), .int .i64 n] wx (RollEnd to' fun w' => GN w0 w' m p X A0 lp z d M0 rs0 n K0 F st True D V J []) := by
  obtain ⟨A, P, l, rs, t0, ext, hM, hR, hG0, hst0, hq0, hbF, hP, mv, hext, hlo, hj, _⟩ := h.ex
  have hb : l.bytes.length + l.kept ≤ 4194304 := by omega
  obtain ⟨path, hpath, hpr⟩ := hG0.chain
  have hnn := hG0.nn
  have hd : t0.debts = [] := hG0.debts
  have hNX := next_path0 hM n (by omega) (by omega) (MgG.set_get M0 n t0) path hpath (by rw [hd]; exact fun i j hj => absurd hj (Nat.not_lt_zero _)) (by rw [hd]; simp) (fun y hy wz bz => read_rec (hM.below bz) hR (by omega) (hpr y hy).1 (hpr y hy).2)
  have htt : ({ t0 with next := 0, debts := t0.debts.take (standN t0.debts 0) } : MtV) = { t0 with next := 0 } := by
    rw [hd]
    show ({ t0 with next := 0, debts := [] } : MtV) = _
    rw [← hd]
  rw [htt, MgG.set_set] at hNX
  refine hNX.mono ?_
  rintro e w1 ⟨rfl, A1, g1, mv1⟩
  have by1 : Below w1.heap.size w1 (w1.alloc (.cells (rec0.cells none none 0 0) 56)) := (Below.refl _ _).alloc (Nat.le_refl _) _
  have hG1 : TxN rs l.bytes.length { t0 with next := 0 } n [] := ⟨GTo.refl _ _ _, hG0.lchain, hG0.tx, hG0.debts, hG0.kept, hG0.last, Nat.zero_le _, hG0.begun, hnn⟩
  exact ⟨⟨rec0, none, none, 0, 0, 0, rfl, Nat.zero_le _, ⟨A1, P, l, rs, _, ext, g1.below by1, hR, hG1, hst0, hq0, hbF, hP, (mv.trans mv1).trans (Moves.of_kept (Kept.of_below by1)), hext, hlo, hj, fun _ => rfl⟩⟩⟩

end

end Go.Proofs.YtjemeopafkafgaaGreat

namespace Go.Proofs.YtjemeopafkafgaaGreat
open Go.RowKit Go.Sort
set_option linter.unusedVariables false
set_option linter.unusedSimpArgs false

section
variable {w w0 wx wy : World} {m p lp z : Nat} {X : Int → Nat} {A A0 : Nat → Prop} {P : PG} {l : LG} {d : DG} {M M0 : MgG} {rs rs0 : List ByteArray} {t : MtV} {n : Nat} {L xs : List UpN} {x : UpN} {K0 F N : Nat} {st : Int} {e0 : Prop} {D : Nat → Prop} {V V' : Nat → SheetV} {J : List ByteArray → Nat → List UpN → Prop} {fn : FuncId} {cap : Value} {B : World → (Nat → Prop) → Prop} {CL : UpN → SheetV → Prop}

/-- From here on. -/
theorem GN.re (h : GN w0 wx m p X A0 lp z d M0 rs0 n K0 F st e0 D V J L) : ∃ A rs, GN wx wx m p X A lp z d M0 rs n K0 F st e0 D V J L ∧ Moves A0 A w0 wx ∧ (∀ k, A k → k < wx.heap.size) ∧ ∃ ext, rs = rs0 ++ ext := by
  obtain ⟨A, P, l, rs, t, ext, hM, hR, hG, hst, hq, hbF, hP, mv, hext, hlo, hj, he⟩ := h.ex
  exact ⟨A, rs, ⟨A, P, l, rs, t, [], hM, hR, hG, hst, hq, hbF, hP, Moves.refl _ _, by rw [List.append_nil], hlo, hj, he⟩, mv, hM.lt, ext, hext⟩

/-- The same beside what has turned elsewhere. -/
theorem GN.grown (h : GN wx wx m p X A lp z d M0 rs0 n K0 F st e0 D V J L) (hs : ∀ k, A k → wy.heap[k]? = wx.heap[k]?) (hz : wx.heap.size ≤ wy.heap.size) : GN wy wy m p X A lp z d M0 rs0 n K0 F st e0 D V J L := by
  obtain ⟨A', P, l, rs, t, ext, hM, hR, hG, hst, hq, hbF, hP, mv, hext, hlo, hj, he⟩ := h.ex
  have hA : ∀ k, A' k → A k := fun k x => by
    rcases mv.2 k x with y | y
    · exact y
    · have := hM.lt k x; omega
  exact ⟨A', P, l, rs, t, ext, hM.same (fun k x => hs k (hA k x)) hz, hR, hG, hst, hq, hbF, hP, ⟨(Moves.refl A wy).1, fun k x => .inl (hA k x)⟩, hext, hlo, hj, he⟩

theorem GN.from (h : GN wy w m p X A lp z d M0 rs0 n K0 F st e0 D V J L) (mv : Moves A0 A w0 wy) {rs1 : List ByteArray} (hr : ∃ ext, rs0 = rs1 ++ ext) : GN w0 w m p X A0 lp z d M0 rs1 n K0 F st e0 D V J L := by
  obtain ⟨A', P, l, rs, t, ext, hM, hR, hG, hst, hq, hbF, hP, mv', hext, hlo, hj, he⟩ := h.ex
  obtain ⟨e1, rfl⟩ := hr
  exact ⟨A', P, l, rs, t, e1 ++ ext, hM, hR, hG, hst, hq, hbF, hP, mv.trans mv', by rw [hext, List.append_assoc], hlo, hj, he⟩

theorem GN.room (h : GN w0 wx m p X A0 lp z d M0 rs0 n K0 F st e0 D V J L) {F' : Nat} (hF : F ≤ F') : GN w0 wx m p X A0 lp z d M0 rs0 n K0 F' st e0 D V J L := by
  obtain ⟨A, P, l, rs, t, ext, hM, hR, hG, hst, hq, hbF, hP, mv, hext, hlo, hj, he⟩ := h.ex
  exact ⟨A, P, l, rs, t, ext, hM, hR, hG, hst, hq, Nat.le_trans hbF hF, hP, mv, hext, hlo, hj, he⟩

/-- A change of a page that stands in a frame is logged. -/
theorem gn_log (hJ : JOk n J) (h : GN w0 w m p X A0 lp z d M0 rs0 n K0 F 1 e0 D V J L) (c : ChgV) (S old : ByteArray) (inv : OpV) (hup : ∀ last pl, last < 18446744073709551616 → UpOk n ⟨⟨pl, S, old⟩, recN n last c, inv⟩) (hD : DoesN D V c.page c.op V') (hco : c.op.Ok) (hcc : chkB c.op = true) (hz : z ≤ 1000000) (hF : F + 234 + 2 * (S.size + old.size) ≤ 4194304) :
    Calls Tryz.prog 14 #[.pointer (some ⟨m, 0, none⟩), .int .i64 n, .agg c.cells] w fun e w' => ∃ (pl prev : Nat), e = .returned (.tuple #[.int .u64 pl, .int .i64 0]) ∧ placeOf rs0 rs0.length ≤ pl ∧ GN w0 w' m p X A0 lp z d M0 rs0 n K0 (F + 234 + 2 * (S.size + old.size)) 1 True D V' J (⟨⟨pl, S, old⟩, recN n prev c, inv⟩ :: L) := by
  obtain ⟨A, P, l, rs, t, ext, hM, hR, hG, hst, hq, hbF, hP, mv, hext, hlo, hj, _⟩ := h.ex
  have hlast := hG.last
  have hnn := hG.nn
  have hcnt := hR.count
  have hst' := hR.len
  have hu := hup t.last (l.bytes.length + 1) (by omega)
  have hsm := hu.small
  have hsm' : S.size + old.size ≤ 8167 := hsm
  obtain ⟨f, hf, hfit, hnum, hsame⟩ := hP.at' c.page hD.dom
  obtain ⟨q, hdo, hqn, hqs, hqsame, hqfit⟩ := hD.do' f.sh hfit hnum hsame
  have hrec := recU_eq hG.tx c
  have sz : (logS t c).size = 25 + S.size + old.size := by
    show (encR (recU t c)).toArray.size = _
    rw [List.size_toArray, hrec]
    have : S.size + old.size + 25 = (encR (recN n t.last c)).length := hu.len
    omega
  have e1 : standN t.debts (l.bytes.length + 1) = (upn L).length := by rw [hG.debts]; exact stand_line hG.chain.falls (by have := hG.chain.plOf; have := hG.next; omega)
  have hkk := hG.kept
  have hrl := room_len (upn L)
  refine (tlog_ok hM n (by omega) (by omega) (MgG.set_get M0 n t) hst c (fun wx => by rw [hrec]; exact hu.ok.ok wx none none (.inl rfl) (.inl rfl)) (by rw [hrec]; exact hu.ok.may) hu.undo (by rw [sz]; omega) hu.pg.1 hu.pg.2 hf hfit hco hcc hdo (hqfit _ (by omega)) hqn hqs (by have := hP.z; omega) (by omega) (by rw [sz]; omega) (by omega) (by rw [hG.debts]; exact debts_rise hG.chain.falls) (by rw [hG.debts, debts_length]; omega) (by rw [e1, hG.debts, owed_line]; omega)).mono ?_
  rintro e w' ⟨rfl, A', g, mv'⟩
  rw [MgG.set_set] at g
  have hlen : (putG { l with kept := l.kept + ((logS t c).size + 172) } (logS t c)).bytes.length = l.bytes.length + ((logS t c).size + 12) := putG_len _ _
  have hR' : RecsAt (putG { l with kept := l.kept + ((logS t c).size + 172) } (logS t c)) (rs ++ [logS t c]) := RecsAt.snoc (l := { l with kept := l.kept + ((logS t c).size + 172) }) ⟨hR.starts, hR.long, hR.text⟩ _
  have hpl0 : placeOf rs0 rs0.length ≤ l.bytes.length + 1 := by
    have hl := hR.long
    have h3 := placeOf_mono (rs0 ++ ext) (show rs0.length ≤ (rs0 ++ ext).length by simp)
    rw [placeOf_ext rs0 ext _ (Nat.le_refl _)] at h3
    rw [hext] at hl
    omega
  refine ⟨l.bytes.length + 1, t.last, rfl, hpl0, ⟨A', _, _, rs ++ [logS t c], _, ext ++ [logS t c], g, hR', ?_, hst, ?_, ?_, hP.put hf hqn (hqfit _ (by omega)) hqsame hD.oth, mv.trans mv', by rw [hext, List.append_assoc], ?_, ?_, fun _ => rfl⟩⟩
  · exact hG.log hR hst rfl rfl hu (by rw [hlen]; omega)
  · show l.kept + _ = K0 + (t.kept + _); omega
  · rw [hlen]; show _ + (l.kept + _) ≤ _; rw [sz]; omega
  · exact ⟨hlo.half, by rw [hlen]; have := hlo.fl; show l.flushed ≤ _; omega, by rw [hlen, sz]; omega, hlo.at'⟩
  · have := hJ.log (x := ⟨⟨l.bytes.length + 1, S, old⟩, recN n t.last c, inv⟩) hR hj hu rfl rfl
    have e : logS t c = ⟨(encR (recN n t.last c)).toArray⟩ := by show ByteArray.mk (encR (recU t c)).toArray = _; rw [hrec]
    rw [e]
    exact this

theorem gn_save (h : GN w0 w m p X A0 lp z d M0 rs0 n K0 F st e0 D V J L) (he : e0) :
    Calls Tryz.prog 15 #[.pointer (some ⟨m, 0, none⟩), .int .i64 n] w fun e w' => e = .returned (.tuple #[.int .u64 ((plOf (upn L) : Nat) : Int), .int .i64 0]) ∧ w = w' := by
  obtain ⟨A, P, l, rs, t, ext, hM, hR, hG, hst, hq, hbF, hP, mv, hext, hlo, hj, hn⟩ := h.ex
  have hnn := hG.nn
  refine (save_any hM n (by omega) (by omega) (MgG.set_get M0 n t)).mono ?_
  rintro e w' ⟨rfl, rfl⟩
  exact ⟨by rw [← hn he], rfl⟩

/-- Back to a place. -/
theorem gn_roll (to' : Nat) (hclo : Clo m p X d n fn cap B CL) (hJ : JOk n J) (hz : z ≤ 1000000) (h : GN w0 w m p X A0 lp z d M0 rs0 n K0 F st e0 D V J L) (hby : Below w.heap.size w wy) (hB : ∀ A, Moves A0 A w0 w → (∀ k, A k → k < w.heap.size) → B wy A) (hF : F ≤ 4194304) (j : Nat) (hj : j ≤ L.length) (hU : UndN CL D V (L.take j) V') (hover : ∀ i (hi : i < L.length), i < j → to' < L[i].u.pl) (hstop : plOf (upn (L.drop j)) ≤ to') :
    Calls Tryz.prog 22 #[.pointer (some ⟨m, 0, none⟩), .int .i64 n, .int .u64 to', .func (.func fn) #[] #[cap]] wy fun e w' => e = .returned (.int .i64 0) ∧ GN w0 w' m p X A0 lp z d M0 rs0 n K0 F st True D V' J (L.drop j) := by
  obtain ⟨A, rs, hg, mv, hlt, hext⟩ := h.re
  have hBy := hB A mv hlt
  have hgy : GN wy wy m p X A lp z d M0 rs n K0 F st e0 D V J L := hg.grown (fun k x => hby.block k (hlt k x)) hby.size
  have hf : ∃ fp, Calls Tryz.prog 50 #[.pointer (some ⟨m, 0, none⟩), .int .i64 n] wy fun r w' => r = .returned (.tuple #[.pointer (some fp), .int .i64 0]) ∧ wy = w' := by
    obtain ⟨A, P, l, rs, t0, ext, hM, hR, hG0, _⟩ := hgy.ex
    have := hG0.nn
    exact ⟨_, find_yes hM n (by omega) (by omega) (MgG.set_get M0 n t0)⟩
  obtain ⟨fp, hf⟩ := hf
  refine (roll_any m n to' fn cap wy fp j (fun i wx => ∃ Vi, GN wy wx m p X A lp z d M0 rs n K0 F st False D Vi J (L.drop i) ∧ UndN CL D Vi ((L.take j).drop i) V') (fun w' => GN wy w' m p X A lp z d M0 rs n K0 F st True D V' J (L.drop j)) hf ⟨V, hgy.weak, hU⟩ (fun i hi wx hx => ?_) (fun wx hx => ?_)).mono ?_
  · obtain ⟨Vi, hx, hu⟩ := hx
    have hiL : i < L.length := by omega
    have e : L.drop i = L[i] :: L.drop (i + 1) := List.drop_eq_getElem_cons hiL
    have hit : i < (L.take j).length := by rw [List.length_take]; omega
    have e2 : (L.take j).drop i = L[i] :: (L.take j).drop (i + 1) := by rw [List.drop_eq_getElem_cons hit, List.getElem_take]
    rw [e] at hx
    rw [e2] at hu
    obtain ⟨V1, hD, hCL, hu1⟩ := hu
    refine (gn_step hclo hJ (fun A' _ mv' => hclo.moves hBy mv') hz hx hF (hover i hiL hi) hD hCL).mono ?_
    rintro ee ww ⟨r, ta, da, tc, dc, at', h1, h2, ⟨h3⟩⟩
    refine ⟨⟨r, ta, da, tc, dc, at', h1, h2, ⟨fun wq hq => ?_⟩⟩⟩
    refine (h3 wq hq).mono ?_
    rintro e3 w3 ⟨h4, h5, h6⟩
    refine ⟨h4, h5, hidx (h6.out.mono ?_)⟩
    rintro e4 w4 ⟨h7, h8⟩
    exact ⟨h7, V1, h8, hu1⟩
  · obtain ⟨Vi, hx, hu⟩ := hx
    have e0 : (L.take j).drop j = [] := by rw [List.drop_eq_nil_iff, List.length_take]; omega
    rw [e0] at hu
    have hVV : Vi = V' := hu
    rw [hVV] at hx
    cases e : L.drop j with
    | nil => rw [e] at hx; exact gn_end0 hx hF
    | cons y ys =>
      rw [e] at hx hstop
      exact gn_end hx hF hstop
  · rintro e w' ⟨rfl, hg'⟩
    exact ⟨rfl, hg'.from (mv.trans (Moves.of_kept (Kept.of_below hby))) hext⟩

/-- A nested top action ends: what it did stays. -/
theorem gn_top (hJ : JOk n J) {K : List UpN} (h : GN w0 w m p X A0 lp z d M0 rs0 n K0 F 1 e0 D V J (K ++ xs)) (hF : F + 83 ≤ 4194304) :
    Calls Tryz.prog 16 #[.pointer (some ⟨m, 0, none⟩), .int .i64 n, .int .u64 ((plOf (upn xs) : Nat) : Int)] w fun e w' => ∃ pl : Nat, e = .returned (.tuple #[.int .u64 pl, .int .i64 0]) ∧ GN w0 w' m p X A0 lp z d M0 rs0 n K0 (F + 83) 1 True D V J xs := by
  obtain ⟨A, P, l, rs, t, ext, hM, hR, hG, hst, hq, hbF, hP, mv, hext, hlo, hj, _⟩ := h.ex
  have hnn := hG.nn
  have hlast := hG.last
  have hn2 := hG.next
  have hcnt := hR.count
  have hst' := hR.len
  obtain ⟨b0, hb0, hc0⟩ := GChainN.drop K hG.chain
  have hcx := hc0.head
  have hx : plOf (upn xs) ≤ t.next := Nat.le_trans hc0.plOf hb0
  obtain ⟨next, Hn⟩ : ∃ q, Hid (plOf (upn xs) = q) := ⟨_, rfl⟩
  have hnq := Hn.out
  have hov : ∀ (K : List UpN) (a : Nat), GChainN rs n a (K ++ xs) → ∀ y ∈ K, plOf (upn xs) < y.u.pl := by
    intro K
    induction K with
    | nil => intro a _ y hy; simp at hy
    | cons q K ih =>
      intro a hch y hy
      obtain ⟨h1, h2, h3, h4, h5, h6⟩ := hch
      rcases List.mem_cons.1 hy with rfl | hy
      · obtain ⟨b1, hb1, hc1⟩ := GChainN.drop K h6
        have := hc1.plOf
        omega
      · exact ih _ h6 y hy
  have hovK := hov K _ hG.chain
  rw [hnq] at hx hcx hovK ⊢
  have hrsum : ∀ K : List UpN, roomSum (upn xs) ≤ roomSum (upn (K ++ xs)) := by
    intro K
    induction K with
    | nil => exact Nat.le_refl _
    | cons y K ih => show _ ≤ roomSum (upn (K ++ xs)) + _; omega
  have hk : roomSum (upn xs) + 50 ≤ t.kept := by have := hrsum K; have := hG.kept; rw [hst] at this; have e50 : cOf 1 = 50 := rfl; omega
  have ec : cOf t.state = 50 := by rw [hst]; rfl
  have hfl := hG.chain.falls
  have hrise : RisesD t.debts := by rw [hG.debts]; exact debts_rise hfl
  have hdd : ∀ K : List UpN, debtsOf (upn (K ++ xs)) = debtsOf (upn xs) ++ (debtsOf (upn (K ++ xs))).drop (upn xs).length := by
    intro K
    induction K with
    | nil =>
      show debtsOf (upn xs) = debtsOf (upn xs) ++ (debtsOf (upn xs)).drop (upn xs).length
      rw [← debts_length (upn xs), List.drop_length, List.append_nil]
    | cons y K ih =>
      show debtsOf (upn (K ++ xs)) ++ [_] = _ ++ (debtsOf (upn (K ++ xs)) ++ [_]).drop _
      rw [List.drop_append_of_le_length (by rw [debts_length]; simp [upn]), ← List.append_assoc, ← ih]
  have hall : ∀ K : List UpN, (∀ y ∈ K, next < y.u.pl) → ∀ q ∈ (debtsOf (upn (K ++ xs))).drop (upn xs).length, next < q.lsn := by
    intro K
    induction K with
    | nil =>
      intro _ q hq
      have : (debtsOf (upn xs)).drop (upn xs).length = [] := by rw [← debts_length (upn xs), List.drop_length]
      have hq' : q ∈ (debtsOf (upn xs)).drop (upn xs).length := hq
      rw [this] at hq'
      simp at hq'
    | cons y K ih =>
      intro hy q hq
      have hq' : q ∈ (debtsOf (upn (K ++ xs)) ++ [DbV.mk y.u.pl (roomSum (upn (y :: K ++ xs)))]).drop (upn xs).length := hq
      rw [List.drop_append_of_le_length (by rw [debts_length]; simp [upn]), List.mem_append] at hq'
      rcases hq' with hq' | hq'
      · exact ih (fun z hz => hy z (by simp [hz])) q hq'
      · simp at hq'
        subst hq'
        exact hy y (by simp)
  have est : standN t.debts next = (upn xs).length := by
    rw [hG.debts, hdd K]
    unfold standN
    rw [List.takeWhile_append_of_pos (fun q hq => by have := debts_mem hcx.falls q hq; simp; omega)]
    have h2 : ((debtsOf (upn (K ++ xs))).drop (upn xs).length).takeWhile (fun q => decide (q.lsn ≤ next)) = [] := by
      cases e : (debtsOf (upn (K ++ xs))).drop (upn xs).length with
      | nil => rfl
      | cons q Q =>
        have := hall K hovK q (by rw [e]; simp)
        simp only [List.takeWhile]
        rw [show decide (q.lsn ≤ next) = false by simp; omega]
    rw [h2, List.append_nil, debts_length]
  have etk : t.debts.take (standN t.debts next) = debtsOf (upn xs) := by
    rw [est, hG.debts, hdd K, ← debts_length (upn xs)]
    exact List.take_left
  have eow : owedN t.debts (standN t.debts next) = roomSum (upn xs) := by
    rw [← owed_line (upn xs), ← etk, est]
    unfold owedN
    by_cases e : (upn xs).length = 0
    · rw [if_pos e, if_pos e]
    · rw [if_neg e, if_neg e]
      rw [List.getElem?_take_of_lt (by omega)]
  have etn : topN t next = roomSum (upn xs) + 50 := by
    unfold topN wayN
    rw [hG.begun, if_pos rfl, if_pos hst, eow]
  have sz := topS_size t n next
  obtain ⟨sh, hsh⟩ : ∃ sh, (topS t n next).size + 12 + topN t next - t.kept = sh := ⟨_, rfl⟩
  have hsh33 : sh ≤ 33 := by rw [← hsh, sz, etn]; omega
  have hkk := hG.kept
  have hrl := room_len (upn (K ++ xs))
  have hrx := hrsum K
  refine (top_ok hM n ⟨by omega, by omega⟩ (MgG.set_get M0 n t) next hx (by omega) (by omega) hrise (by rw [hG.debts, debts_length]; omega) (by rw [eow]; omega) (by omega) (by omega) (by omega) (by rw [etn]; omega) (.inr (by rw [etn]; omega))).mono ?_
  rintro e w' ⟨rfl, A', g, mv'⟩
  rw [MgG.set_set] at g
  have hlen : (spendL l t (topS t n next) (topN t next)).bytes.length = l.bytes.length + 33 := by show (putG (coverL l t _) _).bytes.length = _; rw [putG_len, sz]; rfl
  have hkl : (spendL l t (topS t n next) (topN t next)).kept = l.kept + sh - 33 := by show l.kept + ((topS t n next).size + 12 + topN t next - t.kept) - ((topS t n next).size + 12) = _; rw [hsh, sz]
  have hkt : (spendT l t (topS t n next) (topN t next)).kept = t.kept + sh - 33 := by show t.kept + ((topS t n next).size + 12 + topN t next - t.kept) - ((topS t n next).size + 12) = _; rw [hsh, sz]
  have hneed : roomSum (upn xs) + 50 + 33 ≤ t.kept + sh := by rw [← hsh, sz, etn]; omega
  have hR' : RecsAt (spendL l t (topS t n next) (topN t next)) (rs ++ [topS t n next]) := by
    have := RecsAt.snoc (l := coverL l t ((topS t n next).size + 12 + topN t next)) ⟨hR.starts, hR.long, hR.text⟩ (topS t n next)
    exact ⟨this.starts, this.long, this.text⟩
  have htG : ({ spendT l t (topS t n next) (topN t next) with next := next, debts := t.debts.take (standN t.debts next) } : MtV) = { t with kept := t.kept + sh - 33, last := l.bytes.length + 1, next := next, debts := debtsOf (upn xs) } := by
    rw [etk, ← hkt]
    rfl
  refine ⟨l.bytes.length + 1, rfl, ⟨A', P, _, rs ++ [topS t n next], _, ext ++ [topS t n next], g, hR', ?_, hst, ?_, ?_, hP, mv.trans mv', by rw [hext, List.append_assoc], ?_, ?_, ?_⟩⟩
  · rw [htG]
    exact hG.top hR (by omega) hcx hx rfl (by rw [ec]; omega) (by rw [hlen]; omega)
  · rw [htG, hkl]; show _ = K0 + (t.kept + sh - 33); omega
  · rw [hlen, hkl]; omega
  · refine ⟨?_, ?_, by rw [hlen]; omega, ?_⟩
    · exact hlo.half
    · rw [hlen]; have := hlo.fl; show l.flushed ≤ _; omega
    · exact hlo.at'
  · rw [htG]
    exact hJ.top (recT t n next) hR hj (RecOk.top t n next hnn (by omega) (by omega)) rfl rfl
  · intro _
    rw [htG]
    exact Hn.out.symm

/-- What Abort leaves. -/
structure GAbN (w0 w' : World) (m p : Nat) (X : Int → Nat) (A0 : Nat → Prop) (lp z : Nat) (d : DG) (M0 : MgG) (rs0 : List ByteArray) (n K0 F : Nat) (D : Nat → Prop) (V : Nat → SheetV) (J : List ByteArray → Nat → List UpN → Prop) : Prop where
  ex : ∃ A P l rs ext last, MSys w' m p X A P l d (M0.gone n) ∧ RecsAt l rs ∧ l.kept = K0 ∧ l.bytes.length + l.kept ≤ F ∧ PgN lp z D P V ∧ Moves A0 A w0 w' ∧ rs = rs0 ++ ext ∧ LOk l d ∧ J rs last []

theorem TxN.endOk {rs : List ByteArray} {l : LG} (h : TxN rs l.bytes.length t n []) (hR : RecsAt l rs) (hq : l.kept = K0 + t.kept) (hb : l.bytes.length + l.kept ≤ 4194304) : EndOk l t := by
  have h3 := h.kept
  have h4 := h.last
  have h5 := hR.count
  have h6 := hR.len
  have h7 := h.tx
  have h8 : roomSum (upn []) = 0 := rfl
  have h9 := cOf_le t.state
  have h10 := h.nn
  exact ⟨by omega, by omega, by omega, by omega, by omega, by omega, .inl (by omega)⟩

theorem TxN.abort (h : TxN rs l.bytes.length t n L) (hR : RecsAt l rs) (hb : l.bytes.length ≤ 4194304) (hst : t.state = 1) {t' : MtV} (ht : t' = { t with kept := t.kept - 25, last := l.bytes.length + 1, state := 3 }) {b' : Nat} (hb' : l.bytes.length + 1 ≤ b') :
    TxN (rs ++ [markS 5 t]) b' t' n L := by
  have hla := h.last
  have hn2 := h.next
  have hnn := h.nn
  have hk := h.kept
  rw [hst] at hk
  have hin : RecIn (rs ++ [markS 5 t]) (l.bytes.length + 1) (recM 5 n t.last) := by
    have : markS 5 t = ⟨(encR (recM 5 n t.last)).toArray⟩ := by unfold markS; rw [h.tx]
    rw [this]
    exact RecIn.last hR _
  subst ht
  refine ⟨h.chain.snoc _, GChainN.over (a := t.last) hin (RecOk.mark n t.last 5 (by omega) hnn (by omega)) (fun e => by have : (5 : Int) = 1 := e.1; omega) rfl (by omega) (h.lchain.snoc _), h.tx, h.debts, ?_, hb', ?_, h.begun, hnn⟩
  · show roomSum (upn L) + cOf 3 ≤ t.kept - 25
    have e1 : cOf 1 = 50 := rfl
    have e3 : cOf 3 = 25 := rfl
    omega
  · show t.next ≤ b'; omega

theorem mark_eq {t : MtV} {n : Nat} (h : t.tx = n) (k : Int) : markS k t = ⟨(encR (recM k n t.last)).toArray⟩ := by unfold markS; rw [h]

theorem gn_abort (hclo : Clo m p X d n fn cap B CL) (hJ : JOk n J) (hz : z ≤ 1000000) (h : GN w0 w m p X A0 lp z d M0 rs0 n K0 F 1 e0 D V J L) (hby : Below w.heap.size w wy) (hB : ∀ A, Moves A0 A w0 w → (∀ k, A k → k < w.heap.size) → B wy A) (hF : F ≤ 4194304) (hU : UndN CL D V L V') :
    Calls Tryz.prog 21 #[.pointer (some ⟨m, 0, none⟩), .int .i64 n, .func (.func fn) #[] #[cap]] wy fun e w' => e = .returned (.int .i64 0) ∧ GAbN w0 w' m p X A0 lp z d M0 rs0 n K0 F D V' J := by
  obtain ⟨A, P, l, rs, t, ext, hM0, hR, hG, hst, hq, hbF, hP, mv0, hext, hlo, hj, _⟩ := h.ex
  have hBy : B wy A := hB A mv0 hM0.lt
  have hM := hM0.below hby
  have mv : Moves A0 A w0 wy := mv0.trans (Moves.of_kept (Kept.of_below hby))
  have hlast := hG.last
  have hnx := hG.next
  have hcnt := hR.count
  have hst' := hR.len
  have htx := hG.tx
  have hnn := hG.nn
  have hk := hG.kept
  have ec : cOf t.state = 50 := by rw [hst]; rfl
  have est : standN t.debts t.next = (upn L).length := by rw [hG.debts]; exact stand_line hG.chain.falls hG.chain.plOf
  have eow : owedN t.debts (standN t.debts t.next) = roomSum (upn L) := by rw [est, hG.debts]; exact owed_line (upn L)
  have eab : abN t = roomSum (upn L) + 25 := by
    unfold abN wayN
    rw [hG.begun, if_pos rfl, if_neg (by decide), eow]
  have sz := markS_size 5 t (by omega)
  have esp := spend_eqs l t (markS 5 t) (abN t) (by rw [sz, eab]; omega)
  have eT : abT l t = { t with kept := t.kept - 25, last := l.bytes.length + 1, state := 3 } := by unfold abT; rw [esp.2, sz]
  have eLb : (abL l t).bytes.length = l.bytes.length + 25 := by unfold abL; rw [esp.1]; show (putG l _).bytes.length = _; rw [putG_len, sz]
  have eLk : (abL l t).kept = l.kept - 25 := by unfold abL; rw [esp.1, sz]
  have hR1 : RecsAt (abL l t) (rs ++ [markS 5 t]) := by
    have := hR.snoc (markS 5 t)
    unfold abL
    rw [esp.1]
    exact ⟨this.starts, this.long, this.text⟩
  have hG1 : TxN (rs ++ [markS 5 t]) (abL l t).bytes.length (abT l t) n L := hG.abort hR (by omega) hst eT (by rw [eLb]; omega)
  have hloA : LOk (abL l t) d := by
    refine ⟨?_, ?_, by rw [eLb]; omega, ?_⟩
    · unfold abL; rw [esp.1]; exact hlo.half
    · rw [eLb]; have := hlo.fl; unfold abL; rw [esp.1]; show l.flushed ≤ _; omega
    · unfold abL; rw [esp.1]; exact hlo.at'
  have hj1 : J (rs ++ [markS 5 t]) (abT l t).last L := by
    rw [eT, mark_eq htx]
    exact hJ.mark (recM 5 n t.last) hR hj (RecOk.mark n t.last 5 (by omega) hnn (by omega)) (by show (3 : Int) < 5; decide) rfl
  have hrl := room_len (upn L)
  refine (abort_any (Z := fun P2 l2 d2 M2 t2 => d2 = d ∧ M2 = M0.set n t2 ∧ ∃ rs2 ext2, RecsAt l2 rs2 ∧ TxN rs2 l2.bytes.length t2 n [] ∧ l2.kept = K0 + t2.kept ∧ l2.bytes.length + l2.kept ≤ F ∧ PgN lp z D P2 V' ∧ rs2 = rs0 ++ ext2 ∧ LOk l2 d ∧ J rs2 t2.last []) hM n (by omega) (by omega) (MgG.set_get M0 n t) hst fn cap (by omega) (by omega) (by rw [hG.debts]; exact debts_rise hG.chain.falls) (by rw [hG.debts, debts_length]; omega) (by rw [eow]; omega) (by omega) (by omega) (by omega) (by rw [eab]; omega) (.inl (by rw [eab]; omega)) (fun wx A1 g1 mv1 => ?_)).mono ?_
  · rw [MgG.set_set] at g1
    have hGS : GN wx wx m p X A1 lp z d M0 rs0 n K0 F 3 False D V J L := ⟨A1, P, _, _, _, ext ++ [markS 5 t], g1, hR1, hG1, by rw [eT], by rw [eLk, eT]; show _ = K0 + (t.kept - 25); omega, by rw [eLb, eLk]; omega, hP, Moves.refl _ _, by rw [hext, List.append_assoc], hloA, hj1, fun x => x.elim⟩
    have hro := gn_roll (w0 := wx) (A0 := A1) 0 hclo hJ hz hGS (Below.refl _ _) (fun A' mv' _ => hclo.moves (hclo.moves hBy mv1) mv') hF L.length (Nat.le_refl _) (by rw [List.take_length]; exact hU) (fun i hi _ => (hG.chain.ok _ (List.getElem_mem hi)).2) (by rw [List.drop_length]; exact Nat.le_refl _)
    rw [List.drop_length] at hro
    refine hro.mono ?_
    rintro e w' ⟨rfl, hS⟩
    obtain ⟨A2, P2, l2, rs2, t2, ext2, g2, hR2, hG2, hst2, hq2, hb2, hP2, mv2, hext2, hlo2, hj2, _⟩ := hS.ex
    exact ⟨rfl, P2, l2, d, M0.set n t2, t2, ⟨A2, g2, mv2⟩, MgG.set_get M0 n t2, hG2.endOk hR2 hq2 (by omega), rfl, rfl, rs2, ext2, hR2, hG2, hq2, hb2, hP2, hext2, hlo2, hj2⟩
  · rintro e w' ⟨rfl, hA⟩
    obtain ⟨A', P2, l2, d2, M2, t2, g2, mv2, _, _, rfl, rfl, rs2, ext2, hR2, hG2, hq2, hb2, hP2, hext2, hlo2, hj2⟩ := hA.ex
    have h3 := hG2.kept
    have h9 := cOf_le t2.state
    have h10 := hG2.last
    have h11 := hG2.nn
    obtain ⟨a1, a2, a3, a4⟩ := TxG.ended (F := F) (show 25 ≤ t2.kept by omega) hR2 hq2 hb2
    rw [MgG.set_gone] at g2
    refine ⟨rfl, ⟨A', P2, _, _, ext2 ++ [markS 6 t2], l2.bytes.length + 1, g2, a1, a2, a4, hP2, mv.trans mv2, by rw [hext2, List.append_assoc], ended_lok (show 25 ≤ t2.kept by omega) hlo2 a3 (by omega), ?_⟩⟩
    rw [mark_eq hG2.tx]
    exact hJ.mark (recM 6 n t2.last) hR2 hj2 (RecOk.mark n t2.last 6 (by omega) h11 (by omega)) (by show (3 : Int) < 6; decide) rfl

/-- What Commit leaves. -/
structure GCmN (w0 w' : World) (m p : Nat) (X : Int → Nat) (A0 : Nat → Prop) (lp z : Nat) (M0 : MgG) (rs0 : List ByteArray) (n K0 F N : Nat) (D : Nat → Prop) (V : Nat → SheetV) (J : List ByteArray → Nat → List UpN → Prop) (L : List UpN) : Prop where
  ex : ∃ A P l rs ext d last, MSys w' m p X A P l d ((M0.pushed n).gone n) ∧ RecsAt l rs ∧ l.kept = K0 ∧ l.bytes.length + l.kept ≤ F ∧ PgN lp z D P V ∧ Moves A0 A w0 w' ∧ rs = rs0 ++ ext ∧ LOk l d ∧ DOk d (N + 2) ∧ J rs last L

theorem gn_commit (hJ : JOk n J) (h : GN w0 w m p X A0 lp z d M0 rs0 n K0 F 1 e0 D V J L) (hF : F ≤ 4194304) (hd : DOk d N) (hN : N ≤ 90000) (hdn : M0.done.length ≤ 1000000) :
    Calls Tryz.prog 20 #[.pointer (some ⟨m, 0, none⟩), .int .i64 n] w fun e w' => e = .returned (.int .i64 0) ∧ GCmN w0 w' m p X A0 lp z M0 rs0 n K0 F N D V J L := by
  obtain ⟨A, P, l, rs, t, ext, hM, hR, hG, hst, hq, hbF, hP, mv, hext, hlo, hj, _⟩ := h.ex
  have hnn := hG.nn
  have hla := hG.last
  have hk := hG.kept
  have htx := hG.tx
  have ec : cOf t.state = 50 := by rw [hst]; rfl
  have hcnt := hR.count
  have hst' := hR.len
  have sz4 := markS_size 4 t (by omega)
  have e4 := spend_eqs l t (markS 4 t) 25 (by rw [sz4]; omega)
  have ecL : cmL l t = { putG l (markS 4 t) with kept := l.kept - (13 + 12) } := by unfold cmL; rw [e4.1, sz4]
  have ecT : cmT l t = { t with kept := t.kept - 25, last := l.bytes.length + 1, state := 2 } := by unfold cmT; rw [e4.2, sz4]
  have hlen : (cmL l t).bytes.length = l.bytes.length + 25 := by rw [ecL]; show (putG l _).bytes.length = _; rw [putG_len, sz4]
  have hlo1 : LOk (cmL l t) d := by
    refine ⟨?_, ?_, by rw [hlen]; omega, ?_⟩
    · rw [ecL]; exact hlo.half
    · rw [hlen]; have := hlo.fl; rw [ecL]; show l.flushed ≤ _; omega
    · rw [ecL]; exact hlo.at'
  have hlo2 := hlo1.fl' (l.bytes.length + 1)
  have hfb : flB (cmL l t) (l.bytes.length + 1) = true := by
    unfold flB
    have := hlo.fl
    refine decide_eq_true ⟨?_, ?_⟩
    · rw [hlen]; rw [ecL]; show l.flushed < _; omega
    · rw [ecL]; show l.flushed + 1 ≤ _; omega
  have ecF : cmF l t = { cmL l t with flushed := (cmL l t).bytes.length } := by unfold cmF flL; rw [if_pos hfb]
  have hFb : (cmF l t).bytes.length = l.bytes.length + 25 := by rw [ecF]; exact hlen
  have hFk : (cmF l t).kept = l.kept - 25 := by rw [ecF, ecL]
  have hFs : (cmF l t).starts.length = l.starts.length + 1 := by rw [ecF, ecL]; show (l.starts ++ [_]).length = _; simp
  have hTk : (cmT l t).kept = t.kept - 25 := by rw [ecT]
  have hTx : (cmT l t).tx = n := by rw [ecT]; exact htx
  have hTl : (cmT l t).last = l.bytes.length + 1 := by rw [ecT]
  have hRF : RecsAt (cmF l t) (rs ++ [markS 4 t]) := by
    have := hR.snoc (markS 4 t)
    rw [ecF, ecL]
    exact ⟨this.starts, this.long, this.text⟩
  have hj1 : J (rs ++ [markS 4 t]) (l.bytes.length + 1) L := by
    rw [mark_eq htx]
    exact hJ.mark (recM 4 n t.last) hR hj (RecOk.mark n t.last 4 (by omega) hnn (by omega)) (by show (3 : Int) < 4; decide) rfl
  refine (commit_ok (n := n) hM (by omega) (MgG.set_get M0 n t) hst hG.tx (by omega) (by omega) (by omega) (by omega) (by omega) (by omega) hdn hd hN hlo1 ⟨by rw [hFb]; omega, by rw [hFs]; omega, by rw [hFk]; omega, by rw [hTk]; omega, by rw [hTk]; omega⟩).mono ?_
  rintro e w' ⟨rfl, A', g, mv'⟩
  rw [MgG.set_pushed, MgG.set_gone] at g
  obtain ⟨a1, a2, a3, a4⟩ := TxG.ended (K0 := K0) (F := F) (l := cmF l t) (t := cmT l t) (by rw [hTk]; omega) hRF (by rw [hFk, hTk]; omega) (by rw [hFb, hFk]; omega)
  refine ⟨rfl, ⟨A', P, _, _, ext ++ [markS 4 t] ++ [markS 6 (cmT l t)], _, (cmF l t).bytes.length + 1, g, a1, a2, a4, hP, mv.trans mv', by rw [hext]; simp, ended_lok (by rw [hTk]; omega) hlo2 a3 (by rw [hFb]; omega), (hd.fl hlo1 (l.bytes.length + 1)).1, ?_⟩⟩
  rw [mark_eq hTx]
  exact hJ.mark (recM 6 n (cmT l t).last) hRF (by rw [hTl]; exact hj1) (RecOk.mark n _ 6 (by omega) hnn (by rw [hTl]; omega)) (by show (3 : Int) < 6; decide) rfl

end

end Go.Proofs.YtjemeopafkafgaaGreat

namespace Go.Proofs.YtjemeopafkafgaaGreat
open Go.RowKit Go.Sort
set_option linter.unusedVariables false
set_option linter.unusedSimpArgs false

def CLb : UpN → SheetV → Prop := fun x _ => x.inv = invO x.r.op
def Bb (m mb : Nat) : World → (Nat → Prop) → Prop := fun w A => w.cell? ⟨mb, 0, none⟩ = some (.pointer (some ⟨m, 0, none⟩)) ∧ ¬ A mb

set_option maxRecDepth 20000 in
theorem clo_back (m p : Nat) (X : Int → Nat) (d : DG) (n mb : Nat) : Clo m p X d n 75 (.pointer (some ⟨mb, 0, none⟩)) (Bb m mb) CLb := by
  refine ⟨fun {wx wy A A'} h mv => ?_, fun v wx => rfl, fun {wz A1 P1 l1 M1} x f ta da tc dc at' P' l' M' hM hB hup hf hfit hnum hcl hcomp => ?_⟩
  · have ho := mv.off (World.block_lt_of_cell? _ _ h.1) h.2
    exact ⟨(World.cell?_of_block (w := wx) (a := ⟨mb, 0, none⟩) ho.1).trans h.1, ho.2⟩
  · refine back1_any hM mb hB.1 hB.2 n x.r ta da tc dc at' P' l' M' (fun wq => inverse_any x.r.op wq hup.oop) (fun wq bq => ?_)
    have e : x.inv = invO x.r.op := hcl
    rw [← e]
    exact hcomp wq bq

end Go.Proofs.YtjemeopafkafgaaGreat

namespace Go.Proofs.YtjemeopafkafgaaGreat
open Go.RowKit Go.Sort
set_option linter.unusedVariables false
set_option linter.unusedSimpArgs false

structure OwnV where
  n : Nat
  now : ByteArray
  was : ByteArray
  saved : ByteArray
  save : Nat
  has : Bool
  ahead : Bool
  aheadS : Bool

def OwnV.cells (o : OwnV) : Array Value := #[.int .i64 o.n, .string o.now, .string o.was, .string o.saved, .int .u64 o.save, .bool o.has, .bool o.ahead, .bool o.aheadS]
def own0 : OwnV := ⟨0, ⟨#[]⟩, ⟨#[]⟩, ⟨#[]⟩, 0, false, false, false⟩

def vS (s : ByteArray) : SheetV := ⟨0, 0, 9, ⟨#[]⟩, [s]⟩
def vT (T : Nat → ByteArray) : Nat → SheetV := fun k => vS (T k)
def D5 (k : Nat) : Prop := 1 ≤ k ∧ k ≤ 5

theorem slot_up (n pg prev pl : Nat) (S old : ByteArray) (hn : n ≤ 2147483647) (h1 : 1 ≤ pg) (h5 : pg ≤ 5) (hv : prev < 18446744073709551616) (hS : S.size ≤ 400) (ho : old.size ≤ 400) : UpOk n ⟨⟨pl, S, old⟩, recN n prev (setC pg S old), setO old S⟩ := by
  refine ⟨rfl, by show (1 : Int) ≠ 0; decide, RecOk.line n pg prev ⟨pl, S, old⟩ hn h1 (by omega) hv (by show S.size ≤ _; omega) (by show old.size ≤ _; omega), ⟨h1, by show pg ≤ 2048; omega⟩, ?_, setO_ok _ _ (by omega) (by omega), setO_ok _ _ (by omega) (by omega), setO_chk _ _ (by omega) (by omega), fun t next hl hx => RecOk.comp t n pg ⟨pl, S, old⟩ next hn h1 (by omega) hl hx (by show S.size ≤ _; omega) (by show old.size ≤ _; omega), fun t next => ?_⟩
  · have := lineR_len n pg prev ⟨pl, S, old⟩ (by show S.size ≤ _; omega) (by show old.size ≤ _; omega)
    show S.size + old.size + 25 = (encR (lineR n pg prev ⟨pl, S, old⟩)).length
    rw [this]
    show S.size + old.size + 25 = 25 + S.size + old.size
    omega
  · have := compS_size t n pg ⟨pl, S, old⟩ next (by show S.size ≤ _; omega) (by show old.size ≤ _; omega)
    show 1 ≤ (compS t n pg (setO old S) next).size ∧ (compS t n pg (setO old S) next).size + 12 ≤ 197 + S.size + old.size
    rw [this]
    show 1 ≤ 33 + S.size + old.size ∧ 33 + S.size + old.size + 12 ≤ 197 + S.size + old.size
    omega

theorem slot_does (T : Nat → ByteArray) (pg : Nat) (S old : ByteArray) (hD : D5 pg) (hT : T pg = old) (hS : S.size ≤ 400) (ho : old.size ≤ 400) : DoesN D5 (vT T) pg (setO S old) (vT (updV T pg S)) := by
  refine ⟨hD, fun s hf hn hs => ?_, fun k hk => ?_⟩
  · have hsl : s.slots = [old] := by rw [hs.slots]; show [T pg] = _; rw [hT]
    have hh : s.head.size = 0 := by rw [hs.head]; rfl
    refine ⟨{ s with slots := [S] }, set_does hf hsl hh ho hS, hn, by show [S] ≠ []; simp, ⟨hs.kind, hs.head, ?_⟩, fun lsn hl => set_fits hf hh hS hl⟩
    show [S] = [updV T pg S pg]
    rw [updV_get]
  · show vS (updV T pg S k) = vS (T k)
    unfold updV
    rw [if_neg hk]

def SlotL (pg : Nat) : List UpN → ByteArray → ByteArray → Prop
  | [], now, was => now = was
  | x :: xs, now, was => x.r.op = setO now x.u.old ∧ x.r.page = pg ∧ x.inv = setO x.u.old now ∧ now.size ≤ 20 ∧ x.u.old.size ≤ 20 ∧ SlotL pg xs x.u.old was

theorem SlotL.und {pg : Nat} (hD : D5 pg) : ∀ {L : List UpN} {T : Nat → ByteArray} {now was : ByteArray}, SlotL pg L now was → T pg = now → UndN CLb D5 (vT T) L (vT (updV T pg was))
  | [], T, now, was, h, hT => by
    have e : now = was := h
    show vT T = vT (updV T pg was)
    rw [← e, ← hT, updV_self]
  | x :: xs, T, now, was, ⟨h1, h2, h3, h4, h5, h6⟩, hT => by
    refine ⟨vT (updV T pg x.u.old), ?_, fun s _ _ _ => ?_, ?_⟩
    · rw [h2, h3]; exact slot_does T pg x.u.old now hD hT (by omega) (by omega)
    · show x.inv = invO x.r.op
      rw [h1, h3]; rfl
    · have := SlotL.und hD h6 (updV_get T pg x.u.old)
      rw [updV_upd] at this
      exact this

/-- A transaction's data, and its changes. -/
structure OwnL (T : Nat → ByteArray) (k : Nat) (o : OwnV) (L : List UpN) : Prop where
  now : o.now = T (k + 1)
  line : SlotL (k + 1) L o.now o.was
  has : o.has = true → ∃ K R, L = K ++ R ∧ o.save = plOf (upn R) ∧ SlotL (k + 1) K o.now o.saved ∧ SlotL (k + 1) R o.saved o.was ∧ (o.aheadS = false → R = [])
  ahead : o.ahead = false → L = []

structure OwnAt (rs : List ByteArray) (b : Nat) (T : Nat → ByteArray) (k : Nat) (MT : Int → Option MtV) (o : OwnV) (fk : Option (Nat × Nat × List UpN)) : Prop where
  no : o.n = 0 → o = own0 ∧ fk = none
  yes : o.n ≠ 0 → ∃ t L, MT o.n = some t ∧ fk = some (o.n, t.last, L) ∧ TxN rs b t o.n L ∧ t.state = 1 ∧ t.next = plOf (upn L) ∧ OwnL T k o L

def keptOf (MT : Int → Option MtV) (o : OwnV) : Nat := if o.n = 0 then 0 else (match MT o.n with | some t => t.kept | none => 0)
def oneOf (o : OwnV) : Nat := if o.n = 0 then 0 else 1

def setK {α : Type} (f : Nat → α) (who : Nat) (v : α) : Nat → α := fun k => if k = who then v else f k
theorem setK_eq {α : Type} (f : Nat → α) (who : Nat) (v : α) : setK f who v who = v := by simp [setK]
theorem setK_ne {α : Type} (f : Nat → α) {who k : Nat} (v : α) (h : k ≠ who) : setK f who v k = f k := by simp [setK, h]
theorem setK_set {α : Type} (f : Nat → α) (who : Nat) (u v : α) : setK (setK f who u) who v = setK f who v := by funext k; unfold setK; by_cases e : k = who <;> simp [e]
theorem setK_self {α : Type} (f : Nat → α) (who : Nat) : setK f who (f who) = f := by funext k; unfold setK; by_cases e : k = who <;> simp [e]

abbrev Fk := Nat → Option (Nat × Nat × List UpN)

/-- What is kept of the whole log. -/
structure HOk (H : Nat → List ByteArray → Fk → Prop) : Prop where
  step : ∀ (nx : Nat) (f : Fk) (who n : Nat), n < nx → JOk n (fun rs last L => H nx rs (setK f who (some (n, last, L))))
  born : ∀ {nx : Nat} {rs : List ByteArray} {f : Fk} {who : Nat}, H nx rs f → f who = none → H (nx + 1) rs (setK f who (some (nx, 0, [])))
  gone : ∀ {nx : Nat} {rs : List ByteArray} {f : Fk} {who n last : Nat} {L : List UpN}, H nx rs (setK f who (some (n, last, L))) → H nx rs (setK f who none)

/-- The manager has just those that are under way. -/
structure MOk (M : MgG) (o : Nat → OwnV) : Prop where
  z : M.z = oneOf (o 0) + oneOf (o 1) + oneOf (o 2)
  lt : ∀ k, k < 3 → (o k).n < M.next
  dist : ∀ j k, j < 3 → k < 3 → j ≠ k → (o j).n ≠ 0 → (o j).n ≠ (o k).n
  only : ∀ q, M.T q ≠ none → ∃ k, k < 3 ∧ (o k).n ≠ 0 ∧ q = ((o k).n : Int)

theorem sum_set (g : OwnV → Nat) (o : Nat → OwnV) (who : Nat) (h : who < 3) (v : OwnV) : g (setK o who v 0) + g (setK o who v 1) + g (setK o who v 2) + g (o who) = g (o 0) + g (o 1) + g (o 2) + g v := by
  rcases (by omega : who = 0 ∨ who = 1 ∨ who = 2) with rfl | rfl | rfl
  · rw [setK_eq, setK_ne o v (by omega), setK_ne o v (by omega)]; omega
  · rw [setK_eq, setK_ne o v (by omega), setK_ne o v (by omega)]; omega
  · rw [setK_eq, setK_ne o v (by omega), setK_ne o v (by omega)]; omega

end Go.Proofs.YtjemeopafkafgaaGreat

namespace Go.Proofs.YtjemeopafkafgaaGreat
open Go.RowKit Go.Sort
set_option linter.unusedVariables false
set_option linter.unusedSimpArgs false

structure PI (w wx : World) (A : Nat → Prop) (m p lp : Nat) (H : Nat → List ByteArray → Fk → Prop) (o : Nat → OwnV) (T : Nat → ByteArray) (F N : Nat) : Prop where
  ex : ∃ X P l d rs M f, MSys wx m p X A P l d M ∧ RecsAt l rs ∧ LOk l d ∧ DOk d N ∧ PgN lp 8 D5 P (vT T) ∧ Ours w wx A ∧ (∀ k, k < 3 → OwnAt rs l.bytes.length T k M.T (o k) (f k)) ∧ l.kept = keptOf M.T (o 0) + keptOf M.T (o 1) + keptOf M.T (o 2) ∧ l.bytes.length + l.kept ≤ F ∧ MOk M o ∧ (M.next ≤ F ∧ M.done.length ≤ N ∧ 1 ≤ M.next) ∧ H M.next rs f
  small : ∀ k, (T k).size ≤ 20

/-- The others, while one acts. -/
structure PCtx (w wx : World) (o : Nat → OwnV) (T : Nat → ByteArray) (F N who : Nat) (A : Nat → Prop) (d : DG) (M : MgG) (K0 : Nat) (rs0 : List ByteArray) (b0 : Nat) (f : Fk) : Prop where
  our : Ours w wx A
  lt : ∀ k, A k → k < wx.heap.size
  dok : DOk d N
  mok : MOk M o
  oth : ∀ k, k < 3 → k ≠ who → OwnAt rs0 b0 T k M.T (o k) (f k)
  k0 : K0 + keptOf M.T (o who) = keptOf M.T (o 0) + keptOf M.T (o 1) + keptOf M.T (o 2)
  len : placeOf rs0 rs0.length = b0 + 1
  nx : M.next ≤ F ∧ M.done.length ≤ N ∧ 1 ≤ M.next

section
variable {w wx w' : World} {m p lp : Nat} {H : Nat → List ByteArray → Fk → Prop} {o : Nat → OwnV} {T T' : Nat → ByteArray} {F F' N who : Nat} {X : Int → Nat} {A A0 : Nat → Prop} {d : DG} {M : MgG} {K0 b0 : Nat} {rs0 : List ByteArray} {f : Fk}

theorem PI.below (h : PI w wx A m p lp H o T F N) (b : Below wx.heap.size wx w') : PI w w' A m p lp H o T F N := by
  obtain ⟨X, P, l, d, rs, M, f, hM, hR, hlo, hd, hP, ho, hO, hk, hF, hm, hn, hH⟩ := h.ex
  exact ⟨⟨X, P, l, d, rs, M, f, hM.below b, hR, hlo, hd, hP, ho.below b, hO, hk, hF, hm, hn, hH⟩, h.small⟩

theorem PI.bel (h : PI w wx A m p lp H o T F N) : Below w.heap.size w wx := by
  obtain ⟨X, P, l, d, rs, M, f, hM, hR, hlo, hd, hP, ho, hO, hk, hF, hm, hn, hH⟩ := h.ex
  exact ho.bl

theorem PI.room (h : PI w wx A m p lp H o T F N) (hF : F ≤ F') {N' : Nat} (hN : N ≤ N') : PI w wx A m p lp H o T F' N' := by
  obtain ⟨X, P, l, d, rs, M, f, hM, hR, hlo, hd, hP, ho, hO, hk, hb, hm, hn, hH⟩ := h.ex
  exact ⟨⟨X, P, l, d, rs, M, f, hM, hR, hlo, ⟨hd.up, hd.np, hd.ok, hd.no, hd.fr, hd.nf, Nat.le_trans hd.calls hN, Nat.le_trans hd.ns hN⟩, hP, ho, hO, hk, by omega, hm, ⟨by omega, by omega, hn.2.2⟩, hH⟩, h.small⟩

theorem pi_slot (h : PI w wx A m p lp H o T F N) (k : Nat) (h5 : k < 5) :
    Calls Tryz.prog 34 #[.pointer (some ⟨m, 0, none⟩), .int .i64 ((k + 1 : Nat) : Int)] wx fun e w' => e = .returned (.string (T (k + 1))) ∧ Below wx.heap.size wx w' := by
  obtain ⟨X, P, l, d, rs, M, f, hM, hR, hlo, hd, hP, ho, hO, hk, hF, hm, hn, hH⟩ := h.ex
  obtain ⟨g, hg, hfit, hnum, hsame⟩ := hP.at' (k + 1) ⟨by omega, by omega⟩
  exact slot_any hM (k + 1) (by omega) (by omega) hg _ hsame.slots

/-- One that is under way, as it stands for itself. -/
theorem PI.gn (h : PI w wx A m p lp H o T F N) (hw : who < 3) (hn : (o who).n ≠ 0) : ∃ X d M K0 rs0 b0 f L, GN wx wx m p X A lp 8 d M rs0 (o who).n K0 F 1 True D5 (vT T) (fun rs last L => H M.next rs (setK f who (some ((o who).n, last, L)))) L ∧ PCtx w wx o T F N who A d M K0 rs0 b0 f ∧ OwnL T who (o who) L ∧ (o who).n < M.next := by
  obtain ⟨X, P, l, d, rs, M, f, hM, hR, hlo, hd, hP, ho, hO, hk, hF, hm, hnx, hH⟩ := h.ex
  obtain ⟨t, L, hT, hf, hG, hst, hne, hL⟩ := (hO who hw).yes hn
  have hkw : keptOf M.T (o who) = t.kept := by unfold keptOf; rw [if_neg hn, hT]
  have hle : t.kept ≤ l.kept := by
    rw [hk]
    rcases (by omega : who = 0 ∨ who = 1 ∨ who = 2) with rfl | rfl | rfl <;> omega
  refine ⟨X, d, M, l.kept - t.kept, rs, l.bytes.length, f, L, ⟨A, P, l, rs, t, [], by rw [MgG.set_self hT]; exact hM, hR, hG, hst, by omega, hF, hP, Moves.refl _ _, by rw [List.append_nil], hlo, ?_, fun _ => hne⟩, ⟨ho, hM.lt, hd, hm, fun k h3 _ => hO k h3, by rw [hkw]; omega, hR.long.symm, hnx⟩, hL, hm.lt who hw⟩
  show H M.next rs (setK f who (some ((o who).n, t.last, L)))
  rw [← hf, setK_self]
  exact hH

theorem OwnAt.moved {rs : List ByteArray} {b b' k : Nat} {MT MT' : Int → Option MtV} {ok : OwnV} {fk : Option (Nat × Nat × List UpN)} (h : OwnAt rs b T k MT ok fk) (ext : List ByteArray) (hb : b ≤ b') (hT : T' (k + 1) = T (k + 1)) (hM : ok.n ≠ 0 → MT' ok.n = MT ok.n) : OwnAt (rs ++ ext) b' T' k MT' ok fk := by
  refine ⟨h.no, fun hn => ?_⟩
  obtain ⟨t, L, h1, h2, h3, h4, h5, h6⟩ := h.yes hn
  exact ⟨t, L, (hM hn).trans h1, h2, h3.ext hb ext, h4, h5, ⟨by rw [hT]; exact h6.now, h6.line, h6.has, h6.ahead⟩⟩

theorem keptOf_same {MT MT' : Int → Option MtV} {ok : OwnV} (h : ok.n ≠ 0 → MT' ok.n = MT ok.n) : keptOf MT' ok = keptOf MT ok := by
  unfold keptOf
  by_cases e : ok.n = 0
  · rw [if_pos e, if_pos e]
  · rw [if_neg e, if_neg e, h e]

theorem grows0 {l : LG} {ext : List ByteArray} (hlen : placeOf rs0 rs0.length = b0 + 1) (h : RecsAt l (rs0 ++ ext)) : b0 ≤ l.bytes.length := by
  have h2 := h.long
  have h3 := placeOf_mono (rs0 ++ ext) (show rs0.length ≤ (rs0 ++ ext).length by simp)
  rw [placeOf_ext rs0 ext _ (Nat.le_refl _)] at h3
  omega

/-- .. and back, when it has acted. -/
theorem PCtx.done (hc : PCtx w wx o T F N who A d M K0 rs0 b0 f) (hw : who < 3) (hn : (o who).n ≠ 0) {o' : OwnV} {L : List UpN} (ho' : o'.n = (o who).n) (hg : GN wx w' m p X A lp 8 d M rs0 (o who).n K0 F' 1 True D5 (vT T') (fun rs last L => H M.next rs (setK f who (some ((o who).n, last, L)))) L) (hL : OwnL T' who o' L) (hT : ∀ k, k ≠ who + 1 → T' k = T k) (hs : ∀ k, (T' k).size ≤ 20) (hF : F ≤ F') : ∃ A', PI w w' A' m p lp H (setK o who o') T' F' N ∧ Moves A A' wx w' := by
  obtain ⟨A', P, l, rs, t, ext, hM, hR, hG, hst, hq, hbF, hP, mv, hext, hlo, hj, hne⟩ := hg.ex
  subst hext
  have hb := grows0 hc.len hR
  have hMT : ∀ k, k < 3 → k ≠ who → (o k).n ≠ 0 → (M.set (o who).n t).T (o k).n = M.T (o k).n := fun k h3 hk hkn => by
    show (if (((o k).n : Nat) : Int) = ((o who).n : Int) then some t else M.T (o k).n) = _
    rw [if_neg]
    intro e
    exact hc.mok.dist k who h3 hw hk hkn (by omega)
  have hkw : keptOf (M.set (o who).n t).T o' = t.kept := by
    unfold keptOf
    rw [if_neg (by rw [ho']; exact hn), ho', MgG.set_get]
  have hko : ∀ k, k < 3 → keptOf (M.set (o who).n t).T (setK o who o' k) = if k = who then t.kept else keptOf M.T (o k) := fun k h3 => by
    by_cases e : k = who
    · rw [if_pos e, e, setK_eq, hkw]
    · rw [if_neg e, setK_ne o o' e]
      exact keptOf_same (hMT k h3 e)
  refine ⟨A', ⟨⟨X, P, l, d, rs0 ++ ext, M.set (o who).n t, setK f who (some ((o who).n, t.last, L)), hM, hR, hlo, hc.dok, hP, hc.our.step mv, fun k h3 => ?_, ?_, hbF, ⟨?_, fun k h3 => ?_, fun j k hj hk hjk => ?_, fun q hq' => ?_⟩, ⟨by have := hc.nx.1; show M.next ≤ F'; omega, hc.nx.2⟩, hj⟩, hs⟩, mv⟩
  · by_cases e : k = who
    · subst e
      rw [setK_eq, setK_eq]
      refine ⟨fun e => absurd (ho' ▸ e) hn, fun _ => ⟨t, L, by rw [ho']; exact MgG.set_get _ _ _, by rw [ho'], by rw [ho']; exact hG, hst, hne trivial, hL⟩⟩
    · rw [setK_ne _ _ e, setK_ne _ _ e]
      exact (hc.oth k h3 e).moved ext hb (hT (k + 1) (by omega)) (hMT k h3 e)
  · rw [hko 0 (by omega), hko 1 (by omega), hko 2 (by omega), hq]
    have h0 := hc.k0
    rcases (by omega : who = 0 ∨ who = 1 ∨ who = 2) with rfl | rfl | rfl <;> simp <;> omega
  · have h1 := sum_set oneOf o who hw o'
    have h2 : oneOf o' = oneOf (o who) := by unfold oneOf; rw [ho']
    have h3 := hc.mok.z
    show M.z = _
    omega
  · show _ < M.next
    by_cases e : k = who
    · rw [e, setK_eq, ho']; exact hc.mok.lt who hw
    · rw [setK_ne _ _ e]; exact hc.mok.lt k h3
  · have hnk : ∀ k, (setK o who o' k).n = (o k).n := fun k => by
      by_cases e : k = who
      · rw [e, setK_eq, ho']
      · rw [setK_ne _ _ e]
    rw [hnk, hnk]
    exact hc.mok.dist j k hj hk hjk
  · have hnk : ∀ k, (setK o who o' k).n = (o k).n := fun k => by
      by_cases e : k = who
      · rw [e, setK_eq, ho']
      · rw [setK_ne _ _ e]
    by_cases e : q = ((o who).n : Int)
    · exact ⟨who, hw, by rw [hnk]; exact hn, by rw [hnk]; exact e⟩
    · have hq2 : M.T q ≠ none := by
        have : (M.set (o who).n t).T q = M.T q := by show (if q = ((o who).n : Int) then some t else M.T q) = _; rw [if_neg e]
        rw [this] at hq'
        exact hq'
      obtain ⟨k, a, b, c⟩ := hc.mok.only q hq2
      exact ⟨k, a, by rw [hnk]; exact b, by rw [hnk]; exact c⟩

/-- .. when it has ended. -/
theorem PCtx.ended (hH : HOk H) (hc : PCtx w wx o T F N who A d M K0 rs0 b0 f) (hw : who < 3) (hn : (o who).n ≠ 0) {A' : Nat → Prop} {P : PG} {l : LG} {ext : List ByteArray} {last : Nat} {L : List UpN} {d' : DG} {M' : MgG} (hM : MSys w' m p X A' P l d' (M'.gone (o who).n)) (hM1 : M'.T = M.T) (hM2 : M'.z = M.z) (hM3 : M'.next = M.next) (hM4 : M'.done.length ≤ N + 2) (hR : RecsAt l (rs0 ++ ext)) (hq : l.kept = K0) (hF : l.bytes.length + l.kept ≤ F) (hP : PgN lp 8 D5 P (vT T')) (mv : Moves A A' wx w') (hlo : LOk l d') (hd : DOk d' (N + 2)) (hj : H M.next (rs0 ++ ext) (setK f who (some ((o who).n, last, L)))) (hT : ∀ k, k ≠ who + 1 → T' k = T k) (hs : ∀ k, (T' k).size ≤ 20) : PI w w' A' m p lp H (setK o who own0) T' F (N + 2) := by
  have hb := grows0 hc.len hR
  have hg : ∀ q, (M'.gone (o who).n).T q = if q = ((o who).n : Int) then none else M.T q := fun q => by show (if q = ((o who).n : Int) then none else M'.T q) = _; rw [hM1]
  have hMT : ∀ k, k < 3 → k ≠ who → (o k).n ≠ 0 → (M'.gone (o who).n).T (o k).n = M.T (o k).n := fun k h3 hk hkn => by
    rw [hg, if_neg]
    intro e
    exact hc.mok.dist k who h3 hw hk hkn (by omega)
  have hko : ∀ k, k < 3 → keptOf (M'.gone (o who).n).T (setK o who own0 k) = if k = who then 0 else keptOf M.T (o k) := fun k h3 => by
    by_cases e : k = who
    · rw [if_pos e, e, setK_eq]; rfl
    · rw [if_neg e, setK_ne _ _ e]
      exact keptOf_same (hMT k h3 e)
  refine ⟨⟨X, P, l, d', rs0 ++ ext, M'.gone (o who).n, setK f who none, hM, hR, hlo, hd, hP, hc.our.step mv, fun k h3 => ?_, ?_, hF, ⟨?_, fun k h3 => ?_, fun j k hj hk hjk hjn => ?_, fun q hq' => ?_⟩, ⟨by show M'.next ≤ F; rw [hM3]; exact hc.nx.1, hM4, by show 1 ≤ M'.next; rw [hM3]; exact hc.nx.2.2⟩, ?_⟩, hs⟩
  · by_cases e : k = who
    · subst e
      rw [setK_eq, setK_eq]
      exact ⟨fun _ => ⟨rfl, rfl⟩, fun e => absurd rfl e⟩
    · rw [setK_ne _ _ e, setK_ne _ _ e]
      exact (hc.oth k h3 e).moved ext hb (hT (k + 1) (by omega)) (hMT k h3 e)
  · rw [hko 0 (by omega), hko 1 (by omega), hko 2 (by omega), hq]
    have h0 := hc.k0
    rcases (by omega : who = 0 ∨ who = 1 ∨ who = 2) with rfl | rfl | rfl <;> simp <;> omega
  · have h1 := sum_set oneOf o who hw own0
    have h2 : oneOf own0 = 0 := rfl
    have h2' : oneOf (o who) = 1 := by unfold oneOf; rw [if_neg hn]
    have h3 := hc.mok.z
    show M'.z - 1 = _
    omega
  · show _ < M'.next
    rw [hM3]
    by_cases e : k = who
    · rw [e, setK_eq]; exact Nat.lt_of_lt_of_le Nat.zero_lt_one hc.nx.2.2
    · rw [setK_ne _ _ e]; exact hc.mok.lt k h3
  · by_cases ej : j = who
    · rw [ej, setK_eq] at hjn; exact absurd rfl hjn
    · rw [setK_ne _ _ ej] at hjn ⊢
      by_cases ek : k = who
      · rw [ek, setK_eq]; exact hjn
      · rw [setK_ne _ _ ek]; exact hc.mok.dist j k hj hk hjk hjn
  · rw [hg] at hq'
    by_cases e : q = ((o who).n : Int)
    · rw [if_pos e] at hq'; exact absurd rfl hq'
    · rw [if_neg e] at hq'
      obtain ⟨k, a, b, c⟩ := hc.mok.only q hq'
      have hkw : k ≠ who := fun ek => e (by rw [c, ek])
      exact ⟨k, a, by rw [setK_ne _ _ hkw]; exact b, by rw [setK_ne _ _ hkw]; exact c⟩
  · show H M'.next _ _
    rw [hM3]
    exact hH.gone hj

end

end Go.Proofs.YtjemeopafkafgaaGreat

namespace Go.Proofs.YtjemeopafkafgaaGreat
open Go.RowKit Go.Sort
set_option linter.unusedVariables false
set_option linter.unusedSimpArgs false

section
variable {w wx wy w' : World} {m p lp : Nat} {H : Nat → List ByteArray → Fk → Prop} {o : Nat → OwnV} {T T' : Nat → ByteArray} {F F' N who : Nat} {X : Int → Nat} {A A0 : Nat → Prop} {d : DG} {M : MgG} {K0 b0 : Nat} {rs0 : List ByteArray} {f : Fk}

theorem updT_ne {T : Nat → ByteArray} {pg : Nat} {s : ByteArray} : ∀ k, k ≠ pg → updV T pg s k = T k := fun k h => by unfold updV; rw [if_neg h]
theorem updT_small {T : Nat → ByteArray} {pg : Nat} {s : ByteArray} (h : ∀ k, (T k).size ≤ 20) (hs : s.size ≤ 20) : ∀ k, (updV T pg s k).size ≤ 20 := fun k => by unfold updV; split; exact hs; exact h k

theorem SlotL.sizes {pg : Nat} : ∀ {L : List UpN} {a b : ByteArray}, SlotL pg L a b → a.size ≤ 20 → b.size ≤ 20
  | [], a, b, h, ha => by have e : a = b := h; rw [← e]; exact ha
  | x :: xs, a, b, ⟨_, _, _, _, h5, h6⟩, _ => SlotL.sizes h6 h5

/-- One begins. -/
theorem pi_begin (hH : HOk H) (h : PI w wx A m p lp H o T F N) (hw : who < 3) (hn : (o who).n = 0) (hF : F + 128 ≤ 4194304) (hN : N ≤ 90000) :
    Calls Tryz.prog 13 #[.pointer (some ⟨m, 0, none⟩)] wx fun e w' => ∃ n : Nat, 1 ≤ n ∧ n ≤ 1000000000 ∧ e = .returned (.tuple #[.int .i64 n, .int .i64 0]) ∧ ∃ A', PI w w' A' m p lp H (setK o who ⟨n, T (who + 1), T (who + 1), ⟨#[]⟩, 0, false, false, false⟩) T (F + 128) N ∧ Moves A A' wx w' := by
  obtain ⟨X, P, l, d, rs, M, f, hM, hR, hlo, hd, hP, ho, hO, hk, hb, hm, hnx, hHf⟩ := h.ex
  have hfree : M.T M.next = none := by
    cases e : M.T M.next with
    | none => rfl
    | some t =>
      obtain ⟨k, a, b, c⟩ := hm.only M.next (by rw [e]; simp)
      have := hm.lt k a
      omega
  have hz : M.z ≤ 3 := by
    have h1 : ∀ x : OwnV, oneOf x ≤ 1 := fun x => by unfold oneOf; split <;> omega
    have := hm.z
    have := h1 (o 0); have := h1 (o 1); have := h1 (o 2)
    omega
  have hfw : f who = none := ((hO who hw).no hn).2
  have how : o who = own0 := ((hO who hw).no hn).1
  refine (begin_ok hM (by omega) hfree (by omega) (by omega) (by omega)).mono ?_
  rintro e w' ⟨rfl, A', b, hM', mv⟩
  have hMT : ∀ k, k < 3 → k ≠ who → (o k).n ≠ 0 → M.born.T (o k).n = M.T (o k).n := fun k h3 hk hkn => by
    show (if (((o k).n : Nat) : Int) = (M.next : Int) then some (fresh M.next) else M.T (o k).n) = _
    rw [if_neg]
    have := hm.lt k h3
    omega
  have hnew : M.born.T M.next = some (fresh M.next) := by show (if (M.next : Int) = (M.next : Int) then _ else _) = _; rw [if_pos rfl]
  have hne : M.next ≠ 0 := by omega
  refine ⟨M.next, hnx.2.2, by omega, rfl, A', ⟨⟨_, P, _, d, rs, M.born, setK f who (some (M.next, 0, [])), hM', ⟨hR.starts, hR.long, hR.text⟩, ⟨hlo.1, hlo.2, hlo.3, hlo.4⟩, hd, hP, ho.step mv, fun k h3 => ?_, ?_, ?_, ⟨?_, fun k h3 => ?_, fun j k hj hk' hjk hjn => ?_, fun q hq => ?_⟩, ⟨by show M.next + 1 ≤ _; omega, hnx.2.1, by show 1 ≤ M.next + 1; omega⟩, hH.born hHf hfw⟩, h.small⟩, mv⟩
  · by_cases e : k = who
    · subst e
      rw [setK_eq, setK_eq]
      refine ⟨fun e => absurd e hne, fun _ => ⟨fresh M.next, [], hnew, rfl, TxN.start _ _ _ (by omega), rfl, rfl, ⟨rfl, rfl, (fun e => by cases e), fun _ => rfl⟩⟩⟩
    · rw [setK_ne _ _ e, setK_ne _ _ e]
      have := (hO k h3).moved (T' := T) (MT' := M.born.T) [] (Nat.le_refl _) rfl (hMT k h3 e)
      rw [List.append_nil] at this
      exact this
  · have hko : ∀ k, k < 3 → keptOf M.born.T (setK o who ⟨M.next, T (who + 1), T (who + 1), ⟨#[]⟩, 0, false, false, false⟩ k) = if k = who then 128 else keptOf M.T (o k) := fun k h3 => by
      by_cases e : k = who
      · rw [if_pos e, e, setK_eq]
        unfold keptOf
        rw [if_neg hne]
        show (match M.born.T M.next with | some t => t.kept | none => 0) = _
        rw [hnew]
        rfl
      · rw [if_neg e, setK_ne _ _ e]
        exact keptOf_same (hMT k h3 e)
    have hk0 : keptOf M.T (o who) = 0 := by unfold keptOf; rw [if_pos hn]
    show l.kept + 128 = _
    rw [hko 0 (by omega), hko 1 (by omega), hko 2 (by omega), hk]
    rcases (by omega : who = 0 ∨ who = 1 ∨ who = 2) with rfl | rfl | rfl <;> simp <;> omega
  · show l.bytes.length + (l.kept + 128) ≤ F + 128; omega
  · have h1 := sum_set oneOf o who hw ⟨M.next, T (who + 1), T (who + 1), ⟨#[]⟩, 0, false, false, false⟩
    have h2 : oneOf ⟨M.next, T (who + 1), T (who + 1), ⟨#[]⟩, 0, false, false, false⟩ = 1 := by unfold oneOf; rw [if_neg hne]
    have h2' : oneOf (o who) = 0 := by unfold oneOf; rw [if_pos hn]
    have h3 := hm.z
    show M.z + 1 = _
    omega
  · show _ < M.next + 1
    by_cases e : k = who
    · rw [e, setK_eq]; show M.next < _; omega
    · rw [setK_ne _ _ e]; have := hm.lt k h3; omega
  · by_cases ej : j = who
    · rw [ej, setK_eq] at hjn ⊢
      rw [setK_ne _ _ (by omega)]
      have := hm.lt k hk'
      show M.next ≠ _
      omega
    · rw [setK_ne _ _ ej] at hjn ⊢
      by_cases ek : k = who
      · rw [ek, setK_eq]
        have := hm.lt j hj
        show _ ≠ M.next
        omega
      · rw [setK_ne _ _ ek]
        exact hm.dist j k hj hk' hjk hjn
  · by_cases e : q = (M.next : Int)
    · exact ⟨who, hw, by rw [setK_eq]; exact hne, by rw [setK_eq]; exact e⟩
    · have hq2 : M.T q ≠ none := by
        have : M.born.T q = M.T q := by show (if q = (M.next : Int) then some (fresh M.next) else M.T q) = _; rw [if_neg e]
        rw [this] at hq
        exact hq
      obtain ⟨k, a, b, c⟩ := hm.only q hq2
      have hkw : k ≠ who := fun ek => by rw [ek] at b; exact b hn
      exact ⟨k, a, by rw [setK_ne _ _ hkw]; exact b, by rw [setK_ne _ _ hkw]; exact c⟩

/-- A number that nobody has. -/
theorem pi_no (h : PI w wx A m p lp H o T F N) (n : Int) (h1 : -9223372036854775808 ≤ n) (h2 : n ≤ 9223372036854775807) (hn : ∀ k, k < 3 → (o k).n ≠ 0 → n ≠ ((o k).n : Int)) : ∀ wy, Below wx.heap.size wx wy → FindNo (.pointer (some ⟨m, 0, none⟩)) n 90 wy := fun wy b => by
  obtain ⟨X, P, l, d, rs, M, f, hM, hR, hlo, hd, hP, ho, hO, hk, hb, hm, hnx, hHf⟩ := h.ex
  refine find_no (hM.below b) n h1 h2 ?_
  cases e : M.T n with
  | none => rfl
  | some t =>
    obtain ⟨k, a, b, c⟩ := hm.only n (by rw [e]; simp)
    exact absurd c (hn k a b)

/-- A savepoint. -/
theorem pi_save (h : PI w wx A m p lp H o T F N) (hw : who < 3) (hn : (o who).n ≠ 0) :
    Calls Tryz.prog 15 #[.pointer (some ⟨m, 0, none⟩), .int .i64 (o who).n] wx fun e w' => ∃ s : Nat, e = .returned (.tuple #[.int .u64 s, .int .i64 0]) ∧ (∃ A', PI w w' A' m p lp H (setK o who { o who with save := s, has := true, saved := (o who).now, aheadS := (o who).ahead }) T F N ∧ Moves A A' wx w') ∧ wx = w' := by
  obtain ⟨X, d, M, K0, rs0, b0, f, L, hg, hc, hL, hlt⟩ := h.gn hw hn
  refine (gn_save hg trivial).mono ?_
  rintro e w' ⟨rfl, rfl⟩
  refine ⟨plOf (upn L), rfl, hc.done hw hn (o' := { o who with save := plOf (upn L), has := true, saved := (o who).now, aheadS := (o who).ahead }) rfl hg ⟨hL.now, hL.line, fun _ => ⟨[], L, rfl, rfl, rfl, hL.line, fun e => hL.ahead e⟩, hL.ahead⟩ (fun k _ => rfl) h.small (Nat.le_refl _), rfl⟩

theorem chainN_all {rs : List ByteArray} {n : Nat} {xs : List UpN} : ∀ (K : List UpN) (a : Nat), GChainN rs n a (K ++ xs) → ∀ y ∈ K, plOf (upn xs) < y.u.pl := by
  intro K
  induction K with
  | nil => intro a _ y hy; simp at hy
  | cons q K ih =>
    intro a hch y hy
    obtain ⟨h1, h2, h3, h4, h5, h6⟩ := hch
    rcases List.mem_cons.1 hy with rfl | hy
    · obtain ⟨b1, hb1, hc1⟩ := GChainN.drop K h6
      have := hc1.plOf
      omega
    · exact ih _ h6 y hy

theorem GN.all {w0 wx : World} {z : Nat} {M0 : MgG} {st : Int} {e0 : Prop} {D : Nat → Prop} {V : Nat → SheetV} {J : List ByteArray → Nat → List UpN → Prop} {n : Nat} {K R : List UpN} (h : GN w0 wx m p X A0 lp z d M0 rs0 n K0 F st e0 D V J (K ++ R)) : ∀ i (hi : i < (K ++ R).length), i < K.length → plOf (upn R) < (K ++ R)[i].u.pl := fun i hi hk => by
  obtain ⟨A', P, l, rs, t, ext, hM, hR, hG, _⟩ := h.ex
  rw [List.getElem_append_left hk]
  exact chainN_all K _ hG.chain _ (List.getElem_mem hk)

theorem back_b (mb : Nat) (hlt : ∀ k, A k → k < wx.heap.size) (hmb : wx.heap.size ≤ mb) (hcell : wy.cell? ⟨mb, 0, none⟩ = some (.pointer (some ⟨m, 0, none⟩))) : ∀ A', Moves A A' wx wx → (∀ k, A' k → k < wx.heap.size) → Bb m mb wy A' := fun A' _ hl => ⟨hcell, fun y => by have := hl mb y; omega⟩

/-- Back to the savepoint. -/
theorem pi_roll (hH : HOk H) (h : PI w wx A m p lp H o T F N) (hw : who < 3) (hn : (o who).n ≠ 0) (hh : (o who).has = true) (hF : F ≤ 4194304) (mb : Nat) (hmb : wx.heap.size ≤ mb) (by' : Below wx.heap.size wx wy) (hcell : wy.cell? ⟨mb, 0, none⟩ = some (.pointer (some ⟨m, 0, none⟩))) :
    Calls Tryz.prog 22 #[.pointer (some ⟨m, 0, none⟩), .int .i64 (o who).n, .int .u64 (o who).save, .func (.func 75) #[] #[.pointer (some ⟨mb, 0, none⟩)]] wy fun e w' => e = .returned (.int .i64 0) ∧ ∃ A', PI w w' A' m p lp H (setK o who { o who with now := (o who).saved, ahead := (o who).aheadS }) (updV T (who + 1) (o who).saved) F N ∧ Moves A A' wx w' := by
  obtain ⟨X, d, M, K0, rs0, b0, f, L, hg, hc, hL, hlt⟩ := h.gn hw hn
  obtain ⟨K, R, rfl, hsv, hKs, hRs, hR0⟩ := hL.has hh
  have hu := hKs.und (T := T) ⟨by omega, by omega⟩ hL.now.symm
  have hsm : (o who).saved.size ≤ 20 := hKs.sizes (by rw [hL.now]; exact h.small _)
  have hdr : (K ++ R).drop K.length = R := List.drop_left
  have htk : (K ++ R).take K.length = K := List.take_left
  have hro := gn_roll (V' := vT (updV T (who + 1) (o who).saved)) (o who).save (clo_back m p X d (o who).n mb) (hH.step M.next f who (o who).n hlt) (by omega) hg by' (fun A' mv hl => back_b mb hc.lt hmb hcell A' mv hl) hF K.length (by simp) (by rw [htk]; exact hu) (fun i hi hk => by rw [hsv]; exact hg.all i hi hk) (by rw [hdr, hsv]; exact Nat.le_refl _)
  rw [hdr] at hro
  refine hro.mono ?_
  rintro e w' ⟨rfl, hg'⟩
  exact ⟨rfl, hc.done hw hn (o' := { o who with now := (o who).saved, ahead := (o who).aheadS }) rfl hg' ⟨(updV_get _ _ _).symm, hRs, fun _ => ⟨[], R, rfl, hsv, rfl, hRs, hR0⟩, hR0⟩ updT_ne (updT_small h.small hsm) (Nat.le_refl _)⟩

/-- A commit. -/
theorem pi_commit (hH : HOk H) (h : PI w wx A m p lp H o T F N) (hw : who < 3) (hn : (o who).n ≠ 0) (hF : F ≤ 4194304) (hN : N ≤ 90000) :
    Calls Tryz.prog 20 #[.pointer (some ⟨m, 0, none⟩), .int .i64 (o who).n] wx fun e w' => e = .returned (.int .i64 0) ∧ ∃ A', PI w w' A' m p lp H (setK o who own0) T F (N + 2) ∧ Moves A A' wx w' := by
  obtain ⟨X, d, M, K0, rs0, b0, f, L, hg, hc, hL, hlt⟩ := h.gn hw hn
  have hdn := hc.nx.2.1
  refine (gn_commit (hH.step M.next f who (o who).n hlt) hg hF hc.dok hN (by omega)).mono ?_
  rintro e w' ⟨rfl, hg'⟩
  obtain ⟨A', P, l, rs, ext, d', last, hM, hR, hk, hb, hP, mv, rfl, hlo, hd, hj⟩ := hg'.ex
  exact ⟨rfl, A', hc.ended hH hw hn hM rfl rfl rfl (by show (M.done ++ [(o who).n]).length ≤ _; simp; omega) hR hk hb hP mv hlo hd hj (fun k _ => rfl) h.small, mv⟩

/-- .. an abort. -/
theorem pi_abort (hH : HOk H) (h : PI w wx A m p lp H o T F N) (hw : who < 3) (hn : (o who).n ≠ 0) (hF : F ≤ 4194304) (mb : Nat) (hmb : wx.heap.size ≤ mb) (by' : Below wx.heap.size wx wy) (hcell : wy.cell? ⟨mb, 0, none⟩ = some (.pointer (some ⟨m, 0, none⟩))) :
    Calls Tryz.prog 21 #[.pointer (some ⟨m, 0, none⟩), .int .i64 (o who).n, .func (.func 75) #[] #[.pointer (some ⟨mb, 0, none⟩)]] wy fun e w' => e = .returned (.int .i64 0) ∧ ∃ A', PI w w' A' m p lp H (setK o who own0) (updV T (who + 1) (o who).was) F (N + 2) ∧ Moves A A' wx w' := by
  obtain ⟨X, d, M, K0, rs0, b0, f, L, hg, hc, hL, hlt⟩ := h.gn hw hn
  have hu := hL.line.und (T := T) ⟨by omega, by omega⟩ hL.now.symm
  have hsm : (o who).was.size ≤ 20 := hL.line.sizes (by rw [hL.now]; exact h.small _)
  have hdn := hc.nx.2.1
  have hab := gn_abort (V' := vT (updV T (who + 1) (o who).was)) (clo_back m p X d (o who).n mb) (hH.step M.next f who (o who).n hlt) (by omega) hg by' (fun A' mv hl => back_b mb hc.lt hmb hcell A' mv hl) hF hu
  refine hab.mono ?_
  rintro e w' ⟨rfl, hg'⟩
  obtain ⟨A', P, l, rs, ext, last, hM, hR, hk, hb, hP, mv, rfl, hlo, hj⟩ := hg'.ex
  have hd := hc.dok
  exact ⟨rfl, A', hc.ended hH hw hn hM rfl rfl rfl (by omega) hR hk hb hP mv hlo ⟨hd.up, hd.np, hd.ok, hd.no, hd.fr, hd.nf, Nat.le_trans hd.calls (by omega), Nat.le_trans hd.ns (by omega)⟩ hj updT_ne (updT_small h.small hsm), mv⟩

/-- A nested top action ends, ahead of which nothing was changed. -/
theorem pi_top (hH : HOk H) (h : PI w wx A m p lp H o T F N) (hw : who < 3) (hn : (o who).n ≠ 0) (hh : (o who).has = true) (ha : (o who).aheadS = false) (hF : F + 83 ≤ 4194304) :
    Calls Tryz.prog 16 #[.pointer (some ⟨m, 0, none⟩), .int .i64 (o who).n, .int .u64 (o who).save] wx fun e w' => ∃ s : Nat, e = .returned (.tuple #[.int .u64 s, .int .i64 0]) ∧ ∃ A', PI w w' A' m p lp H (setK o who { o who with was := (o who).now, ahead := false, has := false }) T (F + 83) N ∧ Moves A A' wx w' := by
  obtain ⟨X, d, M, K0, rs0, b0, f, L, hg, hc, hL, hlt⟩ := h.gn hw hn
  obtain ⟨K, R, rfl, hsv, hKs, hRs, hR0⟩ := hL.has hh
  obtain rfl := hR0 ha
  rw [hsv]
  refine (gn_top (hH.step M.next f who (o who).n hlt) hg hF).mono ?_
  rintro e w' ⟨pl, rfl, hg'⟩
  exact ⟨pl, rfl, hc.done hw hn (o' := { o who with was := (o who).now, ahead := false, has := false }) rfl hg' ⟨hL.now, rfl, (fun e => by cases e), fun _ => rfl⟩ (fun k _ => rfl) h.small (by omega)⟩

/-- A change. -/
theorem pi_log (hH : HOk H) (h : PI w wx A m p lp H o T F N) (hw : who < 3) (hn : (o who).n ≠ 0) (S : ByteArray) (hS : S.size ≤ 20) (hF : F + 400 ≤ 4194304) :
    Calls Tryz.prog 14 #[.pointer (some ⟨m, 0, none⟩), .int .i64 (o who).n, .agg (setC (who + 1) S (o who).now).cells] wx fun e w' => ∃ s : Nat, e = .returned (.tuple #[.int .u64 s, .int .i64 0]) ∧ ∃ A', PI w w' A' m p lp H (setK o who { o who with now := S, ahead := true }) (updV T (who + 1) S) (F + 400) N ∧ Moves A A' wx w' := by
  obtain ⟨X, d, M, K0, rs0, b0, f, L, hg, hc, hL, hlt⟩ := h.gn hw hn
  have hnow : (o who).now.size ≤ 20 := by rw [hL.now]; exact h.small _
  have hnn : (o who).n ≤ 2147483647 := by
    obtain ⟨A', P, l, rs, t, ext, hM, hR, hG, _⟩ := hg.ex
    exact hG.nn
  refine (gn_log (V' := vT (updV T (who + 1) S)) (hH.step M.next f who (o who).n hlt) hg (setC (who + 1) S (o who).now) S (o who).now (setO (o who).now S) (fun last pl hl => slot_up _ (who + 1) last pl S (o who).now hnn (by omega) (by omega) hl (by omega) (by omega)) (slot_does T (who + 1) S (o who).now ⟨by omega, by omega⟩ hL.now.symm (by omega) (by omega)) (setO_ok _ _ (by omega) (by omega)) (setO_chk _ _ (by omega) (by omega)) (by omega) (by omega)).mono ?_
  rintro e w' ⟨pl, prev, rfl, _, hg'⟩
  refine ⟨pl, rfl, hc.done hw hn (o' := { o who with now := S, ahead := true }) rfl (hg'.room (by omega)) ⟨(updV_get _ _ _).symm, ⟨rfl, rfl, rfl, hS, hnow, hL.line⟩, fun hh => ?_, fun e => by cases e⟩ updT_ne (updT_small h.small hS) (by omega)⟩
  obtain ⟨K, R, rfl, hsv, hKs, hRs, hR0⟩ := hL.has hh
  exact ⟨_ :: K, R, rfl, hsv, ⟨rfl, rfl, rfl, hS, hnow, hKs⟩, hRs, hR0⟩

end

end Go.Proofs.YtjemeopafkafgaaGreat

namespace Go.Proofs.YtjemeopafkafgaaGreat
open Go.RowKit Go.Sort
set_option linter.unusedVariables false
set_option linter.unusedSimpArgs false

/-- one was called at we; its boxes lie in the next three blocks. -/
structure OnAt (w we wx : World) (A0 A : Nat → Prop) (m p lp : Nat) (H : Nat → List ByteArray → Fk → Prop) (os : Nat → OwnV) (T : Nat → ByteArray) (F N : Nat) (oc ac rc : Array Value) : Prop where
  pi : PI w wx A m p lp H os T F N
  mv : Moves A0 A we wx
  x6 : BlkR wx we.heap.size oc 30
  x7 : BlkR wx (we.heap.size + 1) ac 33
  x8 : BlkR wx (we.heap.size + 1 + 1) rc 30
  off : ∀ k, A k → k < we.heap.size ∨ we.heap.size + 3 ≤ k
  z : we.heap.size + 3 ≤ wx.heap.size

/-- What one leaves. -/
structure OneOut (w we : World) (A0 : Nat → Prop) (m p lp : Nat) (H : Nat → List ByteArray → Fk → Prop) (os : Nat → OwnV) (F N who : Nat) (e : Ending) (w' : World) : Prop where
  ex : ∃ A' o' T', e = .returned (.tuple #[.agg o'.cells, .bool true]) ∧ PI w w' A' m p lp H (setK os who o') T' (F + 400) (N + 2) ∧ Moves A0 A' we w'

section
variable {w we wx wy w' : World} {A0 A A' : Nat → Prop} {m p lp : Nat} {H : Nat → List ByteArray → Fk → Prop} {os os' : Nat → OwnV} {T T' : Nat → ByteArray} {F F' N N' who : Nat} {oc ac rc : Array Value}

theorem OnAt.step (h : OnAt w we wx A0 A m p lp H os T F N oc ac rc) (hp : PI w w' A' m p lp H os' T' F' N') (mv : Moves A A' wx w') : OnAt w we w' A0 A' m p lp H os' T' F' N' oc ac rc := by
  have hz := h.z
  have o6 := mv.off (show we.heap.size < wx.heap.size by omega) (fun y => by have := h.off _ y; omega)
  have o7 := mv.off (show we.heap.size + 1 < wx.heap.size by omega) (fun y => by have := h.off _ y; omega)
  have o8 := mv.off (show we.heap.size + 1 + 1 < wx.heap.size by omega) (fun y => by have := h.off _ y; omega)
  refine ⟨hp, h.mv.trans mv, h.x6.same o6.1, h.x7.same o7.1, h.x8.same o8.1, fun k y => ?_, Nat.le_trans hz mv.1.size⟩
  rcases mv.2 k y with a | a
  · exact h.off k a
  · right; omega

theorem OnAt.below (h : OnAt w we wx A0 A m p lp H os T F N oc ac rc) (b : Below wx.heap.size wx wy) : OnAt w we wy A0 A m p lp H os T F N oc ac rc :=
  h.step (h.pi.below b) (Moves.of_kept (Kept.of_below b))

/-- A store into a box of the call's own. -/
theorem PI.own (h : PI w wx A m p lp H os T F N) (k : Kept (fun b => ¬ A b ∧ w.heap.size ≤ b) wx w') : PI w w' A m p lp H os T F N := by
  obtain ⟨X, P, l, d, rs, M, f, hM, hR, hlo, hd, hP, ho, hO, hk, hF, hm, hn, hH⟩ := h.ex
  refine ⟨⟨X, P, l, d, rs, M, f, hM.same (fun i y => k.block i (hM.lt i y) (fun e => e.1 y)) k.size, hR, hlo, hd, hP, ⟨ho.ge, ?_⟩, hO, hk, hF, hm, hn, hH⟩, h.small⟩
  exact below_kept ho.bl k (fun i e => e.2)

theorem OnAt.cell (h : OnAt w we wx A0 A m p lp H os T F N oc ac rc) (hw : w.heap.size ≤ we.heap.size) (b i : Nat) (v : Value) (hb : we.heap.size ≤ b ∧ b < we.heap.size + 3) : PI w (wx.setCell ⟨b, i, none⟩ v) A m p lp H os T F N ∧ Moves A0 A we (wx.setCell ⟨b, i, none⟩ v) := by
  have hn : ¬ A b := fun y => by have := h.off _ y; omega
  exact ⟨h.pi.own (Kept.setCell _ _ b i v ⟨hn, by omega⟩), h.mv.late (Kept.setCell (fun k => k = b) _ b i v rfl) (fun k e => by rw [e]; exact hb.1)⟩

theorem OnAt.set6 (h : OnAt w we wx A0 A m p lp H os T F N oc ac rc) (hw : w.heap.size ≤ we.heap.size) (i : Nat) (v : Value) : OnAt w we (wx.setCell ⟨we.heap.size, i, none⟩ v) A0 A m p lp H os T F N (oc.setIfInBounds i v) ac rc := by
  obtain ⟨a, b⟩ := h.cell hw we.heap.size i v ⟨Nat.le_refl _, by omega⟩
  exact ⟨a, b, h.x6.set i v, h.x7.same (Below.heap_setCell _ _ _ _ (by show we.heap.size + 1 ≠ we.heap.size; omega)), h.x8.same (Below.heap_setCell _ _ _ _ (by show we.heap.size + 1 + 1 ≠ we.heap.size; omega)), h.off, by simpa using h.z⟩

theorem OnAt.set7 (h : OnAt w we wx A0 A m p lp H os T F N oc ac rc) (hw : w.heap.size ≤ we.heap.size) (i : Nat) (v : Value) : OnAt w we (wx.setCell ⟨we.heap.size + 1, i, none⟩ v) A0 A m p lp H os T F N oc (ac.setIfInBounds i v) rc := by
  obtain ⟨a, b⟩ := h.cell hw (we.heap.size + 1) i v ⟨by omega, by omega⟩
  exact ⟨a, b, h.x6.same (Below.heap_setCell _ _ _ _ (by show we.heap.size ≠ we.heap.size + 1; omega)), h.x7.set i v, h.x8.same (Below.heap_setCell _ _ _ _ (by show we.heap.size + 1 + 1 ≠ we.heap.size + 1; omega)), h.off, by simpa using h.z⟩

theorem OnAt.set8 (h : OnAt w we wx A0 A m p lp H os T F N oc ac rc) (hw : w.heap.size ≤ we.heap.size) (i : Nat) (v : Value) : OnAt w we (wx.setCell ⟨we.heap.size + 1 + 1, i, none⟩ v) A0 A m p lp H os T F N oc ac (rc.setIfInBounds i v) := by
  obtain ⟨a, b⟩ := h.cell hw (we.heap.size + 1 + 1) i v ⟨by omega, by omega⟩
  exact ⟨a, b, h.x6.same (Below.heap_setCell _ _ _ _ (by show we.heap.size ≠ we.heap.size + 1 + 1; omega)), h.x7.same (Below.heap_setCell _ _ _ _ (by show we.heap.size + 1 ≠ we.heap.size + 1 + 1; omega)), h.x8.set i v, h.off, by simpa using h.z⟩

/-- The result is stored, cell by cell. -/
def stored8 (wx : World) (b : Nat) (v0 v1 v2 v3 v4 v5 v6 v7 : Value) : World := (((((((wx.setCell ⟨b, 0, none⟩ v0).setCell ⟨b, 1, none⟩ v1).setCell ⟨b, 2, none⟩ v2).setCell ⟨b, 3, none⟩ v3).setCell ⟨b, 4, none⟩ v4).setCell ⟨b, 5, none⟩ v5).setCell ⟨b, 6, none⟩ v6).setCell ⟨b, 7, none⟩ v7

theorem set_all8 (a0 a1 a2 a3 a4 a5 a6 a7 v0 v1 v2 v3 v4 v5 v6 v7 : Value) : ((((((((#[a0, a1, a2, a3, a4, a5, a6, a7] : Array Value).setIfInBounds 0 v0).setIfInBounds 1 v1).setIfInBounds 2 v2).setIfInBounds 3 v3).setIfInBounds 4 v4).setIfInBounds 5 v5).setIfInBounds 6 v6).setIfInBounds 7 v7 = #[v0, v1, v2, v3, v4, v5, v6, v7] := by
  simp

theorem OnAt.row8 (h : OnAt w we wx A0 A m p lp H os T F N oc ac own0.cells) (hw : w.heap.size ≤ we.heap.size) (v0 v1 v2 v3 v4 v5 v6 v7 : Value) : OnAt w we (stored8 wx (we.heap.size + 1 + 1) v0 v1 v2 v3 v4 v5 v6 v7) A0 A m p lp H os T F N oc ac #[v0, v1, v2, v3, v4, v5, v6, v7] := by
  have e : own0.cells = #[.int .i64 0, .string ⟨#[]⟩, .string ⟨#[]⟩, .string ⟨#[]⟩, .int .u64 0, .bool false, .bool false, .bool false] := rfl
  rw [e] at h
  have := (((((((h.set8 hw 0 v0).set8 hw 1 v1).set8 hw 2 v2).set8 hw 3 v3).set8 hw 4 v4).set8 hw 5 v5).set8 hw 6 v6).set8 hw 7 v7
  rw [set_all8] at this
  exact this

theorem pi_now (h : PI w wx A m p lp H os T F N) (hw : who < 3) (hn : (os who).n ≠ 0) : (os who).now = T (who + 1) ∧ (os who).n ≤ 2147483647 ∧ ∀ k, k < 3 → (setK os who own0 k).n ≠ 0 → ((os who).n : Int) ≠ ((setK os who own0 k).n : Int) := by
  obtain ⟨X, P, l, d, rs, M, f, hM, hR, hlo, hd, hP, ho, hO, hk, hF, hm, hnx, hH⟩ := h.ex
  obtain ⟨t, L, h1, h2, h3, h4, h5, h6⟩ := (hO who hw).yes hn
  refine ⟨h6.now, h3.nn, fun k h3 hk => ?_⟩
  by_cases e : k = who
  · rw [e, setK_eq] at hk; exact absurd rfl hk
  · rw [setK_ne _ _ e] at hk ⊢
    have := hm.dist who k hw h3 (fun e' => e e'.symm) hn
    omega

theorem OnAt.start (h : PI w we A m p lp H os T F N) : OnAt w we (((we.alloc (.cells oc 30)).alloc (.cells ac 33)).alloc (.cells rc 30)) A A m p lp H os T F N oc ac rc := by
  obtain ⟨X, P, l, d, rs, M, f, hM, _⟩ := h.ex
  have b : Below we.heap.size we (((we.alloc (.cells oc 30)).alloc (.cells ac 33)).alloc (.cells rc 30)) := (((Below.refl _ _).alloc (Nat.le_refl _) _).alloc (by simp) _).alloc (by simp; omega) _
  refine ⟨h.below b, Moves.of_kept (Kept.of_below b), ?_, ?_, ?_, fun k y => .inl (hM.lt k y), by simp⟩
  · show _ = _
    rw [Below.heap_alloc _ _ _ (by simp; omega), Below.heap_alloc _ _ _ (by simp)]
    exact heap_alloc_new _ _
  · show _ = _
    rw [Below.heap_alloc _ _ _ (by simp)]
    have := heap_alloc_new (we.alloc (.cells oc 30)) (.cells ac 33)
    simpa using this
  · have := heap_alloc_new ((we.alloc (.cells oc 30)).alloc (.cells ac 33)) (.cells rc 30)
    show _ = _
    simpa using this

end

end Go.Proofs.YtjemeopafkafgaaGreat

namespace Go.Proofs.YtjemeopafkafgaaGreat
open Go.RowKit Go.Sort
set_option linter.unusedVariables false
set_option linter.unusedSimpArgs false

section
variable {w we wx wy w' : World} {A0 A A' : Nat → Prop} {m p lp : Nat} {H : Nat → List ByteArray → Fk → Prop} {os os' : Nat → OwnV} {T T' : Nat → ByteArray} {F F' N N' who : Nat}


set_option maxHeartbeats 3200000 in
set_option maxRecDepth 20000 in
theorem one_begin (hH : HOk H) (h : PI w we A m p lp H os T F N) (hw : who < 3) (hF : F + 1000 ≤ 4194304) (hN : N ≤ 80000) (hn : (os who).n = 0) (wv : Int) (S : ByteArray) (hS : S.size ≤ 9223372036854775807) :
    Calls Tryz.prog 7 #[.pointer (some ⟨m, 0, none⟩), .int .i64 who, .agg (os who).cells, .agg #[.int .i64 0, .int .i64 wv, .string S]] we (OneOut w we A m p lp H os F N who) := by
  obtain ⟨n, now, was, saved, save, has, ahead, aheadS, HO⟩ : ∃ n now was saved save has ahead aheadS, Hid (os who = ⟨n, now, was, saved, save, has, ahead, aheadS⟩) := ⟨_, _, _, _, _, _, _, _, rfl⟩
  have HPAR : Hid ((os who).cells = #[.int .i64 n, .string now, .string was, .string saved, .int .u64 save, .bool has, .bool ahead, .bool aheadS]) := by show _ = _; rw [HO.out]; rfl
  have HZO : Hid (own0.cells = #[.int .i64 0, .string ⟨#[]⟩, .string ⟨#[]⟩, .string ⟨#[]⟩, .int .u64 0, .bool false, .bool false, .bool false]) := rfl
  obtain ⟨W, HW⟩ : ∃ W, Hid (W = (((we.alloc (.cells (os who).cells 30)).alloc (.cells #[.int .i64 0, .int .i64 wv, .string S] 33)).alloc (.cells own0.cells 30))) := ⟨_, rfl⟩
  have H0 : Hid (OnAt w we W A A m p lp H os T F N (os who).cells #[.int .i64 0, .int .i64 wv, .string S] own0.cells) := by show OnAt _ _ _ _ _ _ _ _ _ _ _ _ _ _ _ _; rw [HW.out]; exact OnAt.start h
  have f2 : W.frozen? ⟨we.heap.size + 1, 2, none⟩ = false := H0.out.x7.frozen 2
  have hw0 : w.heap.size ≤ we.heap.size := h.bel.size
  have c2 : W.cell? ⟨we.heap.size + 1, 2, none⟩ = some (.string S) := H0.out.x7.cell 2
  have HH := hidx h
  clear h
  rw [HPAR.out]
  go_enter Tryz.func7, Tryz.ntmps7
  go_upto_region 1 with fail
  rw [← HPAR.out, ← HZO.out, ← HW.out]
  clear HW
  have HCE : Hid ((os who).cells = #[.int .i64 n, .string now, .string was, .string saved, .int .u64 save, .bool has, .bool ahead, .bool aheadS]) := HPAR
  clear HPAR
  go_upto_if 31 with fail
  go_cut [] from 28 to 35 (fun wx => ∃ S' : ByteArray, S'.size ≤ 20 ∧ Hid (OnAt w we wx A A m p lp H os T F N (os who).cells #[.int .i64 0, .int .i64 wv, .string S'] own0.cells))
  case first =>
    by_cases hlong : 20 < S.size
    · have s1 : decide ((20 : Int) < (S.size : Int)) = true := by simp; omega
      have s1' : decide (20 < S.size) = true := by simp; omega
      have s2 : (20 : Int) ≤ (S.size : Int) := by omega
      have s3 : 20 ≤ S.size := by omega
      obtain ⟨S', HS'⟩ : ∃ S', Hid (S' = S.extract 0 20) := ⟨_, rfl⟩
      have HE : Hid (OnAt w we (W.setCell ⟨we.heap.size + 1, 2, none⟩ (.string S')) A A m p lp H os T F N (os who).cells #[.int .i64 0, .int .i64 wv, .string S'] own0.cells) := hidx (H0.out.set7 hw0 2 (.string S'))
      go_wp2_with fail
      try rw [← HS'.out]
      go_meet
      case rel => exact ⟨S', by rw [HS'.out]; simp; omega, HE⟩
    · have s1 : decide ((20 : Int) < (S.size : Int)) = false := by simp; omega
      have s1' : decide (20 < S.size) = false := by simp; omega
      go_wp2_with fail
      go_meet
      case rel => exact ⟨S, by omega, H0⟩
  obtain ⟨S', hS', HA⟩ := hcut
  clear H0 c2 f2 hS
  have hn0 : n = 0 := by have := hn; rw [HO.out] at this; exact this
  subst hn0
  have k0 : wc.cell? ⟨we.heap.size + 1, 0, none⟩ = some (.int .i64 0) := HA.out.x7.cell 0
  have k2 : wc.cell? ⟨we.heap.size + 1, 2, none⟩ = some (.string S') := HA.out.x7.cell 2
  have c60 : wc.cell? ⟨we.heap.size, 0, none⟩ = some (.int .i64 0) := by have := HA.out.x6.cell 0; rw [HCE.out] at this; exact this
  have HBG := hidx (pi_begin hH HA.out.pi hw hn (by omega) (by omega))
  go_wp2_with fail
  refine HBG.out.mono ?_
  rintro e w4 ⟨n4, hn41, hn42, rfl, A4, pi4, mv4⟩
  have HA4 := hidx (HA.out.step pi4 mv4)
  have HSL := hidx (pi_slot pi4 who (by omega))
  have hcw : ((who + 1 : Nat) : Int) = (who : Int) + 1 := by omega
  rw [hcw] at HSL
  obtain ⟨tw, HTW⟩ : ∃ tw, Hid (T (who + 1) = tw) := ⟨_, rfl⟩
  rw [HTW.out] at HSL HA4
  clear HBG pi4 mv4 hcw k0 k2 c60
  have hq : IntKind.i64.wrap ((who : Int) + 1) = (who : Int) + 1 := by rw [IntKind.wrap_i64]; omega
  go_wp2_with fail
  refine HSL.out.mono ?_
  rintro e w5 ⟨rfl, b5⟩
  have HA5 := hidx (HA4.out.below b5)
  have d1 : decide ((0 : Int) < (n4 : Int)) = true := by simp; omega
  have d2 : decide (0 < n4) = true := by simp; omega
  clear HSL b5 HA4
  have HZ := hidx (HA5.out.row8 hw0 (.int .i64 n4) (.string tw) (.string tw) (.string ⟨#[]⟩) (.int .u64 0) (.bool false) (.bool false) (.bool false))
  have g80 : w5.cell? ⟨we.heap.size + 1 + 1, 0, none⟩ = some (.int .i64 0) := HA5.out.x8.cell 0
  have g81 : w5.cell? ⟨we.heap.size + 1 + 1, 1, none⟩ = some (.string ⟨#[]⟩) := HA5.out.x8.cell 1
  have g82 : w5.cell? ⟨we.heap.size + 1 + 1, 2, none⟩ = some (.string ⟨#[]⟩) := HA5.out.x8.cell 2
  have g83 : w5.cell? ⟨we.heap.size + 1 + 1, 3, none⟩ = some (.string ⟨#[]⟩) := HA5.out.x8.cell 3
  have g84 : w5.cell? ⟨we.heap.size + 1 + 1, 4, none⟩ = some (.int .u64 0) := HA5.out.x8.cell 4
  have g85 : w5.cell? ⟨we.heap.size + 1 + 1, 5, none⟩ = some (.bool false) := HA5.out.x8.cell 5
  have g86 : w5.cell? ⟨we.heap.size + 1 + 1, 6, none⟩ = some (.bool false) := HA5.out.x8.cell 6
  have g87 : w5.cell? ⟨we.heap.size + 1 + 1, 7, none⟩ = some (.bool false) := HA5.out.x8.cell 7
  have f80 : w5.frozen? ⟨we.heap.size + 1 + 1, 0, none⟩ = false := HA5.out.x8.frozen 0
  have f81 : w5.frozen? ⟨we.heap.size + 1 + 1, 1, none⟩ = false := HA5.out.x8.frozen 1
  have f82 : w5.frozen? ⟨we.heap.size + 1 + 1, 2, none⟩ = false := HA5.out.x8.frozen 2
  have f83 : w5.frozen? ⟨we.heap.size + 1 + 1, 3, none⟩ = false := HA5.out.x8.frozen 3
  have f84 : w5.frozen? ⟨we.heap.size + 1 + 1, 4, none⟩ = false := HA5.out.x8.frozen 4
  have f85 : w5.frozen? ⟨we.heap.size + 1 + 1, 5, none⟩ = false := HA5.out.x8.frozen 5
  have f86 : w5.frozen? ⟨we.heap.size + 1 + 1, 6, none⟩ = false := HA5.out.x8.frozen 6
  have f87 : w5.frozen? ⟨we.heap.size + 1 + 1, 7, none⟩ = false := HA5.out.x8.frozen 7
  have z0 : (stored8 w5 (we.heap.size + 1 + 1) (.int .i64 n4) (.string tw) (.string tw) (.string ⟨#[]⟩) (.int .u64 0) (.bool false) (.bool false) (.bool false)).cell? ⟨we.heap.size + 1 + 1, 0, none⟩ = some (.int .i64 n4) := HZ.out.x8.cell 0
  have z1 : (stored8 w5 (we.heap.size + 1 + 1) (.int .i64 n4) (.string tw) (.string tw) (.string ⟨#[]⟩) (.int .u64 0) (.bool false) (.bool false) (.bool false)).cell? ⟨we.heap.size + 1 + 1, 1, none⟩ = some (.string tw) := HZ.out.x8.cell 1
  have z2 : (stored8 w5 (we.heap.size + 1 + 1) (.int .i64 n4) (.string tw) (.string tw) (.string ⟨#[]⟩) (.int .u64 0) (.bool false) (.bool false) (.bool false)).cell? ⟨we.heap.size + 1 + 1, 2, none⟩ = some (.string tw) := HZ.out.x8.cell 2
  have z3 : (stored8 w5 (we.heap.size + 1 + 1) (.int .i64 n4) (.string tw) (.string tw) (.string ⟨#[]⟩) (.int .u64 0) (.bool false) (.bool false) (.bool false)).cell? ⟨we.heap.size + 1 + 1, 3, none⟩ = some (.string ⟨#[]⟩) := HZ.out.x8.cell 3
  have z4 : (stored8 w5 (we.heap.size + 1 + 1) (.int .i64 n4) (.string tw) (.string tw) (.string ⟨#[]⟩) (.int .u64 0) (.bool false) (.bool false) (.bool false)).cell? ⟨we.heap.size + 1 + 1, 4, none⟩ = some (.int .u64 0) := HZ.out.x8.cell 4
  have z5 : (stored8 w5 (we.heap.size + 1 + 1) (.int .i64 n4) (.string tw) (.string tw) (.string ⟨#[]⟩) (.int .u64 0) (.bool false) (.bool false) (.bool false)).cell? ⟨we.heap.size + 1 + 1, 5, none⟩ = some (.bool false) := HZ.out.x8.cell 5
  have z6 : (stored8 w5 (we.heap.size + 1 + 1) (.int .i64 n4) (.string tw) (.string tw) (.string ⟨#[]⟩) (.int .u64 0) (.bool false) (.bool false) (.bool false)).cell? ⟨we.heap.size + 1 + 1, 6, none⟩ = some (.bool false) := HZ.out.x8.cell 6
  have z7 : (stored8 w5 (we.heap.size + 1 + 1) (.int .i64 n4) (.string tw) (.string tw) (.string ⟨#[]⟩) (.int .u64 0) (.bool false) (.bool false) (.bool false)).cell? ⟨we.heap.size + 1 + 1, 7, none⟩ = some (.bool false) := HZ.out.x8.cell 7
  unfold stored8 at z0 z1 z2 z3 z4 z5 z6 z7
  go_wp2_with fail
  refine bodyPost_ret (v := .tuple #[.agg #[.int .i64 n4, .string tw, .string tw, .string ⟨#[]⟩, .int .u64 0, .bool false, .bool false, .bool false], .bool true]) (by simp [results, Tryz.results7, go_sem, z0, z1, z2, z3, z4, z5, z6, z7]) rfl ?_
  exact ⟨⟨A4, (⟨n4, tw, tw, ⟨#[]⟩, 0, false, false, false⟩ : OwnV), _, rfl, HZ.out.pi.room (by omega) (by omega), HZ.out.mv⟩⟩


end

end Go.Proofs.YtjemeopafkafgaaGreat

namespace Go.Proofs.YtjemeopafkafgaaGreat
open Go.RowKit Go.Sort
set_option linter.unusedVariables false
set_option linter.unusedSimpArgs false

section
variable {w we wx wy w' : World} {A0 A A' : Nat → Prop} {m p lp : Nat} {H : Nat → List ByteArray → Fk → Prop} {os os' : Nat → OwnV} {T T' : Nat → ByteArray} {F F' N N' who : Nat}

set_option maxHeartbeats 3200000 in
set_option maxRecDepth 20000 in
theorem one_again (hH : HOk H) (h : PI w we A m p lp H os T F N) (hw : who < 3) (hF : F + 1000 ≤ 4194304) (hN : N ≤ 80000) (hn : (os who).n ≠ 0) (wv : Int) (S : ByteArray) (hS : S.size ≤ 9223372036854775807) :
    Calls Tryz.prog 7 #[.pointer (some ⟨m, 0, none⟩), .int .i64 who, .agg (os who).cells, .agg #[.int .i64 0, .int .i64 wv, .string S]] we (OneOut w we A m p lp H os F N who) := by
  obtain ⟨n, now, was, saved, save, has, ahead, aheadS, HO⟩ : ∃ n now was saved save has ahead aheadS, Hid (os who = ⟨n, now, was, saved, save, has, ahead, aheadS⟩) := ⟨_, _, _, _, _, _, _, _, rfl⟩
  have HPAR : Hid ((os who).cells = #[.int .i64 n, .string now, .string was, .string saved, .int .u64 save, .bool has, .bool ahead, .bool aheadS]) := by show _ = _; rw [HO.out]; rfl
  have HZO : Hid (own0.cells = #[.int .i64 0, .string ⟨#[]⟩, .string ⟨#[]⟩, .string ⟨#[]⟩, .int .u64 0, .bool false, .bool false, .bool false]) := rfl
  obtain ⟨W, HW⟩ : ∃ W, Hid (W = (((we.alloc (.cells (os who).cells 30)).alloc (.cells #[.int .i64 0, .int .i64 wv, .string S] 33)).alloc (.cells own0.cells 30))) := ⟨_, rfl⟩
  have H0 : Hid (OnAt w we W A A m p lp H os T F N (os who).cells #[.int .i64 0, .int .i64 wv, .string S] own0.cells) := by show OnAt _ _ _ _ _ _ _ _ _ _ _ _ _ _ _ _; rw [HW.out]; exact OnAt.start h
  have f2 : W.frozen? ⟨we.heap.size + 1, 2, none⟩ = false := H0.out.x7.frozen 2
  have hw0 : w.heap.size ≤ we.heap.size := h.bel.size
  have c2 : W.cell? ⟨we.heap.size + 1, 2, none⟩ = some (.string S) := H0.out.x7.cell 2
  have HH := hidx h
  clear h
  rw [HPAR.out]
  go_enter Tryz.func7, Tryz.ntmps7
  go_upto_region 1 with fail
  rw [← HPAR.out, ← HZO.out, ← HW.out]
  clear HW
  have HCE : Hid ((os who).cells = #[.int .i64 n, .string now, .string was, .string saved, .int .u64 save, .bool has, .bool ahead, .bool aheadS]) := HPAR
  clear HPAR
  go_upto_if 31 with fail
  go_cut [] from 28 to 35 (fun wx => ∃ S' : ByteArray, S'.size ≤ 20 ∧ Hid (OnAt w we wx A A m p lp H os T F N (os who).cells #[.int .i64 0, .int .i64 wv, .string S'] own0.cells))
  case first =>
    by_cases hlong : 20 < S.size
    · have s1 : decide ((20 : Int) < (S.size : Int)) = true := by simp; omega
      have s1' : decide (20 < S.size) = true := by simp; omega
      have s2 : (20 : Int) ≤ (S.size : Int) := by omega
      have s3 : 20 ≤ S.size := by omega
      obtain ⟨S', HS'⟩ : ∃ S', Hid (S' = S.extract 0 20) := ⟨_, rfl⟩
      have HE : Hid (OnAt w we (W.setCell ⟨we.heap.size + 1, 2, none⟩ (.string S')) A A m p lp H os T F N (os who).cells #[.int .i64 0, .int .i64 wv, .string S'] own0.cells) := hidx (H0.out.set7 hw0 2 (.string S'))
      go_wp2_with fail
      try rw [← HS'.out]
      go_meet
      case rel => exact ⟨S', by rw [HS'.out]; simp; omega, HE⟩
    · have s1 : decide ((20 : Int) < (S.size : Int)) = false := by simp; omega
      have s1' : decide (20 < S.size) = false := by simp; omega
      go_wp2_with fail
      go_meet
      case rel => exact ⟨S, by omega, H0⟩
  obtain ⟨S', hS', HA⟩ := hcut
  clear H0 c2 f2 hS
  have hn0 : ¬ (n = 0) := by have := hn; rw [HO.out] at this; exact this
  have hn1 : ¬ ((n : Int) = 0) := by omega
  have k0 : wc.cell? ⟨we.heap.size + 1, 0, none⟩ = some (.int .i64 0) := HA.out.x7.cell 0
  have k2 : wc.cell? ⟨we.heap.size + 1, 2, none⟩ = some (.string S') := HA.out.x7.cell 2
  have c60 : wc.cell? ⟨we.heap.size, 0, none⟩ = some (.int .i64 n) := by have := HA.out.x6.cell 0; rw [HCE.out] at this; exact this
  have c61 : wc.cell? ⟨we.heap.size, 1, none⟩ = some (.string now) := by have := HA.out.x6.cell 1; rw [HCE.out] at this; exact this
  have c62 : wc.cell? ⟨we.heap.size, 2, none⟩ = some (.string was) := by have := HA.out.x6.cell 2; rw [HCE.out] at this; exact this
  have c63 : wc.cell? ⟨we.heap.size, 3, none⟩ = some (.string saved) := by have := HA.out.x6.cell 3; rw [HCE.out] at this; exact this
  have c64 : wc.cell? ⟨we.heap.size, 4, none⟩ = some (.int .u64 save) := by have := HA.out.x6.cell 4; rw [HCE.out] at this; exact this
  have c65 : wc.cell? ⟨we.heap.size, 5, none⟩ = some (.bool has) := by have := HA.out.x6.cell 5; rw [HCE.out] at this; exact this
  have c66 : wc.cell? ⟨we.heap.size, 6, none⟩ = some (.bool ahead) := by have := HA.out.x6.cell 6; rw [HCE.out] at this; exact this
  have c67 : wc.cell? ⟨we.heap.size, 7, none⟩ = some (.bool aheadS) := by have := HA.out.x6.cell 7; rw [HCE.out] at this; exact this
  go_upto_region 5 with fail
  have HZ := hidx (HA.out.row8 hw0 (.int .i64 n) (.string now) (.string was) (.string saved) (.int .u64 save) (.bool has) (.bool ahead) (.bool aheadS))
  have g80 : wc.cell? ⟨we.heap.size + 1 + 1, 0, none⟩ = some (.int .i64 0) := HA.out.x8.cell 0
  have g81 : wc.cell? ⟨we.heap.size + 1 + 1, 1, none⟩ = some (.string ⟨#[]⟩) := HA.out.x8.cell 1
  have g82 : wc.cell? ⟨we.heap.size + 1 + 1, 2, none⟩ = some (.string ⟨#[]⟩) := HA.out.x8.cell 2
  have g83 : wc.cell? ⟨we.heap.size + 1 + 1, 3, none⟩ = some (.string ⟨#[]⟩) := HA.out.x8.cell 3
  have g84 : wc.cell? ⟨we.heap.size + 1 + 1, 4, none⟩ = some (.int .u64 0) := HA.out.x8.cell 4
  have g85 : wc.cell? ⟨we.heap.size + 1 + 1, 5, none⟩ = some (.bool false) := HA.out.x8.cell 5
  have g86 : wc.cell? ⟨we.heap.size + 1 + 1, 6, none⟩ = some (.bool false) := HA.out.x8.cell 6
  have g87 : wc.cell? ⟨we.heap.size + 1 + 1, 7, none⟩ = some (.bool false) := HA.out.x8.cell 7
  have f80 : wc.frozen? ⟨we.heap.size + 1 + 1, 0, none⟩ = false := HA.out.x8.frozen 0
  have f81 : wc.frozen? ⟨we.heap.size + 1 + 1, 1, none⟩ = false := HA.out.x8.frozen 1
  have f82 : wc.frozen? ⟨we.heap.size + 1 + 1, 2, none⟩ = false := HA.out.x8.frozen 2
  have f83 : wc.frozen? ⟨we.heap.size + 1 + 1, 3, none⟩ = false := HA.out.x8.frozen 3
  have f84 : wc.frozen? ⟨we.heap.size + 1 + 1, 4, none⟩ = false := HA.out.x8.frozen 4
  have f85 : wc.frozen? ⟨we.heap.size + 1 + 1, 5, none⟩ = false := HA.out.x8.frozen 5
  have f86 : wc.frozen? ⟨we.heap.size + 1 + 1, 6, none⟩ = false := HA.out.x8.frozen 6
  have f87 : wc.frozen? ⟨we.heap.size + 1 + 1, 7, none⟩ = false := HA.out.x8.frozen 7
  have z0 : (stored8 wc (we.heap.size + 1 + 1) (.int .i64 n) (.string now) (.string was) (.string saved) (.int .u64 save) (.bool has) (.bool ahead) (.bool aheadS)).cell? ⟨we.heap.size + 1 + 1, 0, none⟩ = some (.int .i64 n) := HZ.out.x8.cell 0
  have z1 : (stored8 wc (we.heap.size + 1 + 1) (.int .i64 n) (.string now) (.string was) (.string saved) (.int .u64 save) (.bool has) (.bool ahead) (.bool aheadS)).cell? ⟨we.heap.size + 1 + 1, 1, none⟩ = some (.string now) := HZ.out.x8.cell 1
  have z2 : (stored8 wc (we.heap.size + 1 + 1) (.int .i64 n) (.string now) (.string was) (.string saved) (.int .u64 save) (.bool has) (.bool ahead) (.bool aheadS)).cell? ⟨we.heap.size + 1 + 1, 2, none⟩ = some (.string was) := HZ.out.x8.cell 2
  have z3 : (stored8 wc (we.heap.size + 1 + 1) (.int .i64 n) (.string now) (.string was) (.string saved) (.int .u64 save) (.bool has) (.bool ahead) (.bool aheadS)).cell? ⟨we.heap.size + 1 + 1, 3, none⟩ = some (.string saved) := HZ.out.x8.cell 3
  have z4 : (stored8 wc (we.heap.size + 1 + 1) (.int .i64 n) (.string now) (.string was) (.string saved) (.int .u64 save) (.bool has) (.bool ahead) (.bool aheadS)).cell? ⟨we.heap.size + 1 + 1, 4, none⟩ = some (.int .u64 save) := HZ.out.x8.cell 4
  have z5 : (stored8 wc (we.heap.size + 1 + 1) (.int .i64 n) (.string now) (.string was) (.string saved) (.int .u64 save) (.bool has) (.bool ahead) (.bool aheadS)).cell? ⟨we.heap.size + 1 + 1, 5, none⟩ = some (.bool has) := HZ.out.x8.cell 5
  have z6 : (stored8 wc (we.heap.size + 1 + 1) (.int .i64 n) (.string now) (.string was) (.string saved) (.int .u64 save) (.bool has) (.bool ahead) (.bool aheadS)).cell? ⟨we.heap.size + 1 + 1, 6, none⟩ = some (.bool ahead) := HZ.out.x8.cell 6
  have z7 : (stored8 wc (we.heap.size + 1 + 1) (.int .i64 n) (.string now) (.string was) (.string saved) (.int .u64 save) (.bool has) (.bool ahead) (.bool aheadS)).cell? ⟨we.heap.size + 1 + 1, 7, none⟩ = some (.bool aheadS) := HZ.out.x8.cell 7
  unfold stored8 at z0 z1 z2 z3 z4 z5 z6 z7
  go_wp2_with fail
  refine bodyPost_ret (v := .tuple #[.agg #[.int .i64 n, .string now, .string was, .string saved, .int .u64 save, .bool has, .bool ahead, .bool aheadS], .bool true]) (by simp [results, Tryz.results7, go_sem, z0, z1, z2, z3, z4, z5, z6, z7]) rfl ?_
  exact ⟨⟨A, (⟨n, now, was, saved, save, has, ahead, aheadS⟩ : OwnV), T, rfl, (by have := HZ.out.pi.room (F' := F + 400) (N' := N + 2) (by omega) (by omega); have e : setK os who (⟨n, now, was, saved, save, has, ahead, aheadS⟩ : OwnV) = os := (by rw [← HO.out]; exact setK_self os who); rw [e]; exact this), HZ.out.mv⟩⟩

end

end Go.Proofs.YtjemeopafkafgaaGreat

namespace Go.Proofs.YtjemeopafkafgaaGreat
open Go.RowKit Go.Sort
set_option linter.unusedVariables false
set_option linter.unusedSimpArgs false

section
variable {w we wx wy w' : World} {A0 A A' : Nat → Prop} {m p lp : Nat} {H : Nat → List ByteArray → Fk → Prop} {os os' : Nat → OwnV} {T T' : Nat → ByteArray} {F F' N N' who : Nat}

theorem TxOneCmixed : Tryz.prog.follows .mixedOrders = true := by kernel_rfl

set_option maxHeartbeats 3200000 in
set_option maxRecDepth 20000 in
theorem one_nobody (hH : HOk H) (h : PI w we A m p lp H os T F N) (hw : who < 3) (hF : F + 1000 ≤ 4194304) (hN : N ≤ 80000) (kd : Int) (hk : ¬ (kd = 0)) (hn : (os who).n = 0) (wv : Int) (S : ByteArray) (hS : S.size ≤ 9223372036854775807) :
    Calls Tryz.prog 7 #[.pointer (some ⟨m, 0, none⟩), .int .i64 who, .agg (os who).cells, .agg #[.int .i64 kd, .int .i64 wv, .string S]] we (OneOut w we A m p lp H os F N who) := by
  obtain ⟨n, now, was, saved, save, has, ahead, aheadS, HO⟩ : ∃ n now was saved save has ahead aheadS, Hid (os who = ⟨n, now, was, saved, save, has, ahead, aheadS⟩) := ⟨_, _, _, _, _, _, _, _, rfl⟩
  have HPAR : Hid ((os who).cells = #[.int .i64 n, .string now, .string was, .string saved, .int .u64 save, .bool has, .bool ahead, .bool aheadS]) := by show _ = _; rw [HO.out]; rfl
  have HZO : Hid (own0.cells = #[.int .i64 0, .string ⟨#[]⟩, .string ⟨#[]⟩, .string ⟨#[]⟩, .int .u64 0, .bool false, .bool false, .bool false]) := rfl
  obtain ⟨W, HW⟩ : ∃ W, Hid (W = (((we.alloc (.cells (os who).cells 30)).alloc (.cells #[.int .i64 kd, .int .i64 wv, .string S] 33)).alloc (.cells own0.cells 30))) := ⟨_, rfl⟩
  have H0 : Hid (OnAt w we W A A m p lp H os T F N (os who).cells #[.int .i64 kd, .int .i64 wv, .string S] own0.cells) := by show OnAt _ _ _ _ _ _ _ _ _ _ _ _ _ _ _ _; rw [HW.out]; exact OnAt.start h
  have f2 : W.frozen? ⟨we.heap.size + 1, 2, none⟩ = false := H0.out.x7.frozen 2
  have hw0 : w.heap.size ≤ we.heap.size := h.bel.size
  have c2 : W.cell? ⟨we.heap.size + 1, 2, none⟩ = some (.string S) := H0.out.x7.cell 2
  have HH := hidx h
  clear h
  rw [HPAR.out]
  go_enter Tryz.func7, Tryz.ntmps7
  go_upto_region 1 with fail
  rw [← HPAR.out, ← HZO.out, ← HW.out]
  clear HW
  have HCE : Hid ((os who).cells = #[.int .i64 n, .string now, .string was, .string saved, .int .u64 save, .bool has, .bool ahead, .bool aheadS]) := HPAR
  clear HPAR
  go_upto_if 31 with fail
  go_cut [] from 28 to 35 (fun wx => ∃ S' : ByteArray, S'.size ≤ 20 ∧ Hid (OnAt w we wx A A m p lp H os T F N (os who).cells #[.int .i64 kd, .int .i64 wv, .string S'] own0.cells))
  case first =>
    by_cases hlong : 20 < S.size
    · have s1 : decide ((20 : Int) < (S.size : Int)) = true := by simp; omega
      have s1' : decide (20 < S.size) = true := by simp; omega
      have s2 : (20 : Int) ≤ (S.size : Int) := by omega
      have s3 : 20 ≤ S.size := by omega
      obtain ⟨S', HS'⟩ : ∃ S', Hid (S' = S.extract 0 20) := ⟨_, rfl⟩
      have HE : Hid (OnAt w we (W.setCell ⟨we.heap.size + 1, 2, none⟩ (.string S')) A A m p lp H os T F N (os who).cells #[.int .i64 kd, .int .i64 wv, .string S'] own0.cells) := hidx (H0.out.set7 hw0 2 (.string S'))
      go_wp2_with fail
      try rw [← HS'.out]
      go_meet
      case rel => exact ⟨S', by rw [HS'.out]; simp; omega, HE⟩
    · have s1 : decide ((20 : Int) < (S.size : Int)) = false := by simp; omega
      have s1' : decide (20 < S.size) = false := by simp; omega
      go_wp2_with fail
      go_meet
      case rel => exact ⟨S, by omega, H0⟩
  obtain ⟨S', hS', HA⟩ := hcut
  clear H0 c2 f2 hS
  have hn0 : n = 0 := by have := hn; rw [HO.out] at this; exact this
  subst hn0
  have k0 : wc.cell? ⟨we.heap.size + 1, 0, none⟩ = some (.int .i64 kd) := HA.out.x7.cell 0
  have k2 : wc.cell? ⟨we.heap.size + 1, 2, none⟩ = some (.string S') := HA.out.x7.cell 2
  have c60 : wc.cell? ⟨we.heap.size, 0, none⟩ = some (.int .i64 0) := by have := HA.out.x6.cell 0; rw [HCE.out] at this; exact this
  have hno : ∀ q : Int, q ≤ 0 → ∀ k, k < 3 → (os k).n ≠ 0 → q ≠ ((os k).n : Int) := fun q hq k _ h0 => by omega
  have HS0 := hidx (save_no (pi_no HA.out.pi 0 (by omega) (by omega) (hno 0 (by omega)) wc (Below.refl _ _)) (by decide))
  have HCM := hidx (commit_no (pi_no HA.out.pi (-1) (by omega) (by omega) (hno (-1) (by omega)) wc.drew ((Below.refl _ _).drew)) (by decide))
  go_wp2_with fail
  refine HS0.out.mono ?_
  rintro e w4 ⟨rfl, hw4⟩
  obtain rfl := hw4
  clear HS0 k0 k2 c60
  go_upto_region 11 with fail
  obtain ⟨WD, HWD⟩ : ∃ W, Hid (W = wc.drew) := ⟨_, rfl⟩
  have HA5 : Hid (OnAt w we WD A A m p lp H os T F N (os who).cells #[.int .i64 kd, .int .i64 wv, .string S'] own0.cells) := by show OnAt _ _ _ _ _ _ _ _ _ _ _ _ _ _ _ _; rw [HWD.out]; exact HA.out.below (wy := wc.drew) ((Below.refl _ _).drew)
  rw [← HWD.out] at HCM
  rw [HCE.out] at HA5
  refine wp_region_noPanic ?_
  refine wp_region_held_drew (S := (fun wy : World => BlkR wy (we.heap.size) #[.int .i64 0, .string now, .string was, .string saved, .int .u64 save, .bool has, .bool ahead, .bool aheadS] 30)) TxOneCmixed (by have := HA5.out.x6; rw [HWD.out] at this; exact this) (fun hH => ?_)
  rw [← HWD.out] at hH ⊢
  clear HWD
  refine wpAnyH_take (i := 0) (v := (.agg #[.int .i64 0, .string now, .string was, .string saved, .int .u64 save, .bool has, .bool ahead, .bool aheadS])) (by simp only [List.getElem?_toArray, List.getElem?_cons_zero]; rfl) (by kernel_rfl) (by kernel_rfl) (by kernel_rfl) (fun _ _ _ h => h) (Or.inl ⟨by rfl, ?_⟩) hH ?_
  · intro wz hSw
    have s0 : wz.cell? ⟨we.heap.size, 0, none⟩ = some (.int .i64 0) := BlkR.cell hSw 0
    have s1 : wz.cell? ⟨we.heap.size, 1, none⟩ = some (.string now) := BlkR.cell hSw 1
    have s2 : wz.cell? ⟨we.heap.size, 2, none⟩ = some (.string was) := BlkR.cell hSw 2
    have s3 : wz.cell? ⟨we.heap.size, 3, none⟩ = some (.string saved) := BlkR.cell hSw 3
    have s4 : wz.cell? ⟨we.heap.size, 4, none⟩ = some (.int .u64 save) := BlkR.cell hSw 4
    have s5 : wz.cell? ⟨we.heap.size, 5, none⟩ = some (.bool has) := BlkR.cell hSw 5
    have s6 : wz.cell? ⟨we.heap.size, 6, none⟩ = some (.bool ahead) := BlkR.cell hSw 6
    have s7 : wz.cell? ⟨we.heap.size, 7, none⟩ = some (.bool aheadS) := BlkR.cell hSw 7
    clear hSw
    go_simp
  try simp only [Act.put, List.setIfInBounds_toArray, List.set_cons_zero, List.set_cons_succ]
  refine wpAnyH_take (i := 1) (v := (.int .i64 90)) (by simp only [List.getElem?_toArray, List.getElem?_cons_succ, List.getElem?_cons_zero]; rfl) (by kernel_rfl) (by kernel_rfl) (by kernel_rfl) (fun _ _ _ h => h) (Or.inl ⟨by rfl, ?_⟩) hH ?_
  · intro wz hSw
    clear hSw
    go_simp
  try simp only [Act.put, List.setIfInBounds_toArray, List.set_cons_zero, List.set_cons_succ]
  refine wpAnyH_take (i := 2) (v := (.bool true)) (by simp only [List.getElem?_toArray, List.getElem?_cons_succ, List.getElem?_cons_zero]; rfl) (by kernel_rfl) (by kernel_rfl) (by kernel_rfl) (fun _ _ _ h => h) (Or.inl ⟨by rfl, ?_⟩) hH ?_
  · intro wz hSw
    clear hSw
    go_simp
  try simp only [Act.put, List.setIfInBounds_toArray, List.set_cons_zero, List.set_cons_succ]
  refine wpAnyH_take (i := 3) (v := (.bool true)) (by simp only [List.getElem?_toArray, List.getElem?_cons_succ, List.getElem?_cons_zero]; rfl) (by kernel_rfl) (by kernel_rfl) (by kernel_rfl) (fun _ _ _ h => h) (Or.inl ⟨by rfl, ?_⟩) hH ?_
  · intro wz hSw
    clear hSw
    go_simp
  try simp only [Act.put, List.setIfInBounds_toArray, List.set_cons_zero, List.set_cons_succ]
  refine wpAnyH_take (i := 4) (v := (.pointer (some ⟨m, 0, none⟩))) (by simp only [List.getElem?_toArray, List.getElem?_cons_succ, List.getElem?_cons_zero]; rfl) (by kernel_rfl) (by kernel_rfl) (by kernel_rfl) (fun _ _ _ h => h) (Or.inl ⟨by rfl, ?_⟩) hH ?_
  · intro wz hSw
    clear hSw
    go_simp
  try simp only [Act.put, List.setIfInBounds_toArray, List.set_cons_zero, List.set_cons_succ]
  refine wpAnyH_ready (rs := [5]) (by kernel_rfl) (by simp) ?_
  refine AllReadyH.cons (i := 5) (by simp only [List.getElem?_toArray, List.getElem?_cons_succ, List.getElem?_cons_zero]; rfl) (fun K hK => ?_) AllReadyH.nil
  go_simp
  refine HCM.out.mono ?_
  rintro e w5 ⟨rfl, h5⟩
  obtain rfl := h5
  refine hK.out _ _ (hH) (fun hH1 => ?_)
  clear hK K hH
  try simp only [Act.put, List.setIfInBounds_toArray, List.set_cons_zero, List.set_cons_succ]
  refine wpAnyH_take (i := 6) (v := (.bool true)) (by simp only [List.getElem?_toArray, List.getElem?_cons_succ, List.getElem?_cons_zero]; rfl) (by kernel_rfl) (by kernel_rfl) (by kernel_rfl) (fun _ _ _ h => h) (Or.inl ⟨by rfl, ?_⟩) hH1 ?_
  · intro wz hSw
    clear hSw
    go_simp
  try simp only [Act.put, List.setIfInBounds_toArray, List.set_cons_zero, List.set_cons_succ]
  refine wpAnyH_take (i := 7) (v := (.bool true)) (by simp only [List.getElem?_toArray, List.getElem?_cons_succ, List.getElem?_cons_zero]; rfl) (by kernel_rfl) (by kernel_rfl) (by kernel_rfl) (fun _ _ _ h => h) (Or.inl ⟨by rfl, ?_⟩) hH1 ?_
  · intro wz hSw
    clear hSw
    go_simp
  try simp only [Act.put, List.setIfInBounds_toArray, List.set_cons_zero, List.set_cons_succ]
  refine wpAnyH_ready (rs := [8]) (by kernel_rfl) (by simp) ?_
  refine AllReadyH.cons (i := 8) (by simp only [List.getElem?_toArray, List.getElem?_cons_succ, List.getElem?_cons_zero]; rfl) (fun K hK => ?_) AllReadyH.nil
  have HZ := hidx (HA5.out.row8 hw0 (.int .i64 0) (.string now) (.string was) (.string saved) (.int .u64 save) (.bool has) (.bool ahead) (.bool aheadS))
  have g80 : WD.cell? ⟨we.heap.size + 1 + 1, 0, none⟩ = some (.int .i64 0) := HA5.out.x8.cell 0
  have g81 : WD.cell? ⟨we.heap.size + 1 + 1, 1, none⟩ = some (.string ⟨#[]⟩) := HA5.out.x8.cell 1
  have g82 : WD.cell? ⟨we.heap.size + 1 + 1, 2, none⟩ = some (.string ⟨#[]⟩) := HA5.out.x8.cell 2
  have g83 : WD.cell? ⟨we.heap.size + 1 + 1, 3, none⟩ = some (.string ⟨#[]⟩) := HA5.out.x8.cell 3
  have g84 : WD.cell? ⟨we.heap.size + 1 + 1, 4, none⟩ = some (.int .u64 0) := HA5.out.x8.cell 4
  have g85 : WD.cell? ⟨we.heap.size + 1 + 1, 5, none⟩ = some (.bool false) := HA5.out.x8.cell 5
  have g86 : WD.cell? ⟨we.heap.size + 1 + 1, 6, none⟩ = some (.bool false) := HA5.out.x8.cell 6
  have g87 : WD.cell? ⟨we.heap.size + 1 + 1, 7, none⟩ = some (.bool false) := HA5.out.x8.cell 7
  have f80 : WD.frozen? ⟨we.heap.size + 1 + 1, 0, none⟩ = false := HA5.out.x8.frozen 0
  have f81 : WD.frozen? ⟨we.heap.size + 1 + 1, 1, none⟩ = false := HA5.out.x8.frozen 1
  have f82 : WD.frozen? ⟨we.heap.size + 1 + 1, 2, none⟩ = false := HA5.out.x8.frozen 2
  have f83 : WD.frozen? ⟨we.heap.size + 1 + 1, 3, none⟩ = false := HA5.out.x8.frozen 3
  have f84 : WD.frozen? ⟨we.heap.size + 1 + 1, 4, none⟩ = false := HA5.out.x8.frozen 4
  have f85 : WD.frozen? ⟨we.heap.size + 1 + 1, 5, none⟩ = false := HA5.out.x8.frozen 5
  have f86 : WD.frozen? ⟨we.heap.size + 1 + 1, 6, none⟩ = false := HA5.out.x8.frozen 6
  have f87 : WD.frozen? ⟨we.heap.size + 1 + 1, 7, none⟩ = false := HA5.out.x8.frozen 7
  go_simp
  refine hK.out _ _ (HZ.out.x6) (fun hH2 => ?_)
  clear hK K hH1
  try simp only [Act.put, List.setIfInBounds_toArray, List.set_cons_zero, List.set_cons_succ]
  refine wpAnyH_take (i := 9) (v := (.bool true)) (by simp only [List.getElem?_toArray, List.getElem?_cons_succ, List.getElem?_cons_zero]; rfl) (by kernel_rfl) (by kernel_rfl) (by kernel_rfl) (fun _ _ _ h => h) (Or.inl ⟨by rfl, ?_⟩) hH2 ?_
  · intro wz hSw
    clear hSw
    go_simp
  try simp only [Act.put, List.setIfInBounds_toArray, List.set_cons_zero, List.set_cons_succ]
  refine wpAnyH_done (by kernel_rfl) ?_ _
  refine NoPanic.normal ?_
  have z0 : (stored8 WD (we.heap.size + 1 + 1) (.int .i64 0) (.string now) (.string was) (.string saved) (.int .u64 save) (.bool has) (.bool ahead) (.bool aheadS)).cell? ⟨we.heap.size + 1 + 1, 0, none⟩ = some (.int .i64 0) := HZ.out.x8.cell 0
  have z1 : (stored8 WD (we.heap.size + 1 + 1) (.int .i64 0) (.string now) (.string was) (.string saved) (.int .u64 save) (.bool has) (.bool ahead) (.bool aheadS)).cell? ⟨we.heap.size + 1 + 1, 1, none⟩ = some (.string now) := HZ.out.x8.cell 1
  have z2 : (stored8 WD (we.heap.size + 1 + 1) (.int .i64 0) (.string now) (.string was) (.string saved) (.int .u64 save) (.bool has) (.bool ahead) (.bool aheadS)).cell? ⟨we.heap.size + 1 + 1, 2, none⟩ = some (.string was) := HZ.out.x8.cell 2
  have z3 : (stored8 WD (we.heap.size + 1 + 1) (.int .i64 0) (.string now) (.string was) (.string saved) (.int .u64 save) (.bool has) (.bool ahead) (.bool aheadS)).cell? ⟨we.heap.size + 1 + 1, 3, none⟩ = some (.string saved) := HZ.out.x8.cell 3
  have z4 : (stored8 WD (we.heap.size + 1 + 1) (.int .i64 0) (.string now) (.string was) (.string saved) (.int .u64 save) (.bool has) (.bool ahead) (.bool aheadS)).cell? ⟨we.heap.size + 1 + 1, 4, none⟩ = some (.int .u64 save) := HZ.out.x8.cell 4
  have z5 : (stored8 WD (we.heap.size + 1 + 1) (.int .i64 0) (.string now) (.string was) (.string saved) (.int .u64 save) (.bool has) (.bool ahead) (.bool aheadS)).cell? ⟨we.heap.size + 1 + 1, 5, none⟩ = some (.bool has) := HZ.out.x8.cell 5
  have z6 : (stored8 WD (we.heap.size + 1 + 1) (.int .i64 0) (.string now) (.string was) (.string saved) (.int .u64 save) (.bool has) (.bool ahead) (.bool aheadS)).cell? ⟨we.heap.size + 1 + 1, 6, none⟩ = some (.bool ahead) := HZ.out.x8.cell 6
  have z7 : (stored8 WD (we.heap.size + 1 + 1) (.int .i64 0) (.string now) (.string was) (.string saved) (.int .u64 save) (.bool has) (.bool ahead) (.bool aheadS)).cell? ⟨we.heap.size + 1 + 1, 7, none⟩ = some (.bool aheadS) := HZ.out.x8.cell 7
  unfold stored8 at z0 z1 z2 z3 z4 z5 z6 z7
  go_wp2_with fail
  refine bodyPost_ret (v := .tuple #[.agg #[.int .i64 0, .string now, .string was, .string saved, .int .u64 save, .bool has, .bool ahead, .bool aheadS], .bool true]) (by simp [results, Tryz.results7, go_sem, z0, z1, z2, z3, z4, z5, z6, z7]) rfl ?_
  exact ⟨⟨A, (⟨0, now, was, saved, save, has, ahead, aheadS⟩ : OwnV), T, rfl, (by have := HZ.out.pi.room (F' := F + 400) (N' := N + 2) (by omega) (by omega); have e : setK os who (⟨0, now, was, saved, save, has, ahead, aheadS⟩ : OwnV) = os := (by rw [← HO.out]; exact setK_self os who); rw [e]; exact this), HZ.out.mv⟩⟩

end

end Go.Proofs.YtjemeopafkafgaaGreat

namespace Go.Proofs.YtjemeopafkafgaaGreat
open Go.RowKit Go.Sort
set_option linter.unusedVariables false
set_option linter.unusedSimpArgs false

section
variable {w we wx wy w' : World} {A0 A A' : Nat → Prop} {m p lp : Nat} {H : Nat → List ByteArray → Fk → Prop} {os os' : Nat → OwnV} {T T' : Nat → ByteArray} {F F' N N' who : Nat}

set_option maxHeartbeats 3200000 in
set_option maxRecDepth 20000 in
theorem one_save (hH : HOk H) (h : PI w we A m p lp H os T F N) (hw : who < 3) (hF : F + 1000 ≤ 4194304) (hN : N ≤ 80000) (hn : (os who).n ≠ 0) (wv : Int) (S : ByteArray) (hS : S.size ≤ 9223372036854775807) :
    Calls Tryz.prog 7 #[.pointer (some ⟨m, 0, none⟩), .int .i64 who, .agg (os who).cells, .agg #[.int .i64 4, .int .i64 wv, .string S]] we (OneOut w we A m p lp H os F N who) := by
  obtain ⟨n, now, was, saved, save, has, ahead, aheadS, HO⟩ : ∃ n now was saved save has ahead aheadS, Hid (os who = ⟨n, now, was, saved, save, has, ahead, aheadS⟩) := ⟨_, _, _, _, _, _, _, _, rfl⟩
  have HPAR : Hid ((os who).cells = #[.int .i64 n, .string now, .string was, .string saved, .int .u64 save, .bool has, .bool ahead, .bool aheadS]) := by show _ = _; rw [HO.out]; rfl
  have HZO : Hid (own0.cells = #[.int .i64 0, .string ⟨#[]⟩, .string ⟨#[]⟩, .string ⟨#[]⟩, .int .u64 0, .bool false, .bool false, .bool false]) := rfl
  obtain ⟨W, HW⟩ : ∃ W, Hid (W = (((we.alloc (.cells (os who).cells 30)).alloc (.cells #[.int .i64 4, .int .i64 wv, .string S] 33)).alloc (.cells own0.cells 30))) := ⟨_, rfl⟩
  have H0 : Hid (OnAt w we W A A m p lp H os T F N (os who).cells #[.int .i64 4, .int .i64 wv, .string S] own0.cells) := by show OnAt _ _ _ _ _ _ _ _ _ _ _ _ _ _ _ _; rw [HW.out]; exact OnAt.start h
  have f2 : W.frozen? ⟨we.heap.size + 1, 2, none⟩ = false := H0.out.x7.frozen 2
  have hw0 : w.heap.size ≤ we.heap.size := h.bel.size
  have c2 : W.cell? ⟨we.heap.size + 1, 2, none⟩ = some (.string S) := H0.out.x7.cell 2
  have HH := hidx h
  clear h
  rw [HPAR.out]
  go_enter Tryz.func7, Tryz.ntmps7
  go_upto_region 1 with fail
  rw [← HPAR.out, ← HZO.out, ← HW.out]
  clear HW
  have HCE : Hid ((os who).cells = #[.int .i64 n, .string now, .string was, .string saved, .int .u64 save, .bool has, .bool ahead, .bool aheadS]) := HPAR
  clear HPAR
  go_upto_if 31 with fail
  go_cut [] from 28 to 35 (fun wx => ∃ S' : ByteArray, S'.size ≤ 20 ∧ Hid (OnAt w we wx A A m p lp H os T F N (os who).cells #[.int .i64 4, .int .i64 wv, .string S'] own0.cells))
  case first =>
    by_cases hlong : 20 < S.size
    · have s1 : decide ((20 : Int) < (S.size : Int)) = true := by simp; omega
      have s1' : decide (20 < S.size) = true := by simp; omega
      have s2 : (20 : Int) ≤ (S.size : Int) := by omega
      have s3 : 20 ≤ S.size := by omega
      obtain ⟨S', HS'⟩ : ∃ S', Hid (S' = S.extract 0 20) := ⟨_, rfl⟩
      have HE : Hid (OnAt w we (W.setCell ⟨we.heap.size + 1, 2, none⟩ (.string S')) A A m p lp H os T F N (os who).cells #[.int .i64 4, .int .i64 wv, .string S'] own0.cells) := hidx (H0.out.set7 hw0 2 (.string S'))
      go_wp2_with fail
      try rw [← HS'.out]
      go_meet
      case rel => exact ⟨S', by rw [HS'.out]; simp; omega, HE⟩
    · have s1 : decide ((20 : Int) < (S.size : Int)) = false := by simp; omega
      have s1' : decide (20 < S.size) = false := by simp; omega
      go_wp2_with fail
      go_meet
      case rel => exact ⟨S, by omega, H0⟩
  obtain ⟨S', hS', HA⟩ := hcut
  clear H0 c2 f2 hS
  have hn0 : ¬ (n = 0) := by have := hn; rw [HO.out] at this; exact this
  have hn1 : ¬ ((n : Int) = 0) := by omega
  have k0 : wc.cell? ⟨we.heap.size + 1, 0, none⟩ = some (.int .i64 4) := HA.out.x7.cell 0
  have k2 : wc.cell? ⟨we.heap.size + 1, 2, none⟩ = some (.string S') := HA.out.x7.cell 2
  have c60 : wc.cell? ⟨we.heap.size, 0, none⟩ = some (.int .i64 n) := by have := HA.out.x6.cell 0; rw [HCE.out] at this; exact this
  have c61 : wc.cell? ⟨we.heap.size, 1, none⟩ = some (.string now) := by have := HA.out.x6.cell 1; rw [HCE.out] at this; exact this
  have c62 : wc.cell? ⟨we.heap.size, 2, none⟩ = some (.string was) := by have := HA.out.x6.cell 2; rw [HCE.out] at this; exact this
  have c63 : wc.cell? ⟨we.heap.size, 3, none⟩ = some (.string saved) := by have := HA.out.x6.cell 3; rw [HCE.out] at this; exact this
  have c64 : wc.cell? ⟨we.heap.size, 4, none⟩ = some (.int .u64 save) := by have := HA.out.x6.cell 4; rw [HCE.out] at this; exact this
  have c65 : wc.cell? ⟨we.heap.size, 5, none⟩ = some (.bool has) := by have := HA.out.x6.cell 5; rw [HCE.out] at this; exact this
  have c66 : wc.cell? ⟨we.heap.size, 6, none⟩ = some (.bool ahead) := by have := HA.out.x6.cell 6; rw [HCE.out] at this; exact this
  have c67 : wc.cell? ⟨we.heap.size, 7, none⟩ = some (.bool aheadS) := by have := HA.out.x6.cell 7; rw [HCE.out] at this; exact this
  have f63 : wc.frozen? ⟨we.heap.size, 3, none⟩ = false := HA.out.x6.frozen 3
  have f64 : wc.frozen? ⟨we.heap.size, 4, none⟩ = false := HA.out.x6.frozen 4
  have f65 : wc.frozen? ⟨we.heap.size, 5, none⟩ = false := HA.out.x6.frozen 5
  have f67 : wc.frozen? ⟨we.heap.size, 7, none⟩ = false := HA.out.x6.frozen 7
  have HSV := hidx (pi_save HA.out.pi hw hn)
  have hnn : (os who).n = n := by rw [HO.out]
  rw [hnn] at HSV
  go_wp2_with fail
  refine HSV.out.mono ?_
  rintro e w4 ⟨s, rfl, ⟨A4, pi4, mv4⟩, hw4⟩
  obtain rfl := hw4
  have HA4 := hidx (((((HA.out.step pi4 mv4).set6 hw0 4 (.int .u64 s)).set6 hw0 5 (.bool true)).set6 hw0 3 (.string now)).set6 hw0 7 (.bool ahead))
  rw [HCE.out] at HA4
  obtain ⟨W4, HW4⟩ : ∃ W, Hid (W = (((wc.setCell ⟨we.heap.size, 4, none⟩ (.int .u64 s)).setCell ⟨we.heap.size, 5, none⟩ (.bool true)).setCell ⟨we.heap.size, 3, none⟩ (.string now)).setCell ⟨we.heap.size, 7, none⟩ (.bool ahead)) := ⟨_, rfl⟩
  rw [← HW4.out] at HA4
  have HP4 := hidx pi4
  rw [HO.out] at HP4
  clear HSV pi4 mv4
  go_upto_region 16 with fail
  rw [← HW4.out]
  clear HW4 c60 c61 c62 c63 c64 c65 c66 c67 f63 f64 f65 f67 k0 k2
  have c60 : W4.cell? ⟨we.heap.size, 0, none⟩ = some (.int .i64 n) := by have := HA4.out.x6.cell 0; exact this
  have c61 : W4.cell? ⟨we.heap.size, 1, none⟩ = some (.string now) := by have := HA4.out.x6.cell 1; exact this
  have c62 : W4.cell? ⟨we.heap.size, 2, none⟩ = some (.string was) := by have := HA4.out.x6.cell 2; exact this
  have c63 : W4.cell? ⟨we.heap.size, 3, none⟩ = some (.string now) := by have := HA4.out.x6.cell 3; exact this
  have c64 : W4.cell? ⟨we.heap.size, 4, none⟩ = some (.int .u64 s) := by have := HA4.out.x6.cell 4; exact this
  have c65 : W4.cell? ⟨we.heap.size, 5, none⟩ = some (.bool true) := by have := HA4.out.x6.cell 5; exact this
  have c66 : W4.cell? ⟨we.heap.size, 6, none⟩ = some (.bool ahead) := by have := HA4.out.x6.cell 6; exact this
  have c67 : W4.cell? ⟨we.heap.size, 7, none⟩ = some (.bool ahead) := by have := HA4.out.x6.cell 7; exact this
  have HZ := hidx (HA4.out.row8 hw0 (.int .i64 n) (.string now) (.string was) (.string now) (.int .u64 s) (.bool true) (.bool ahead) (.bool ahead))
  have g80 : W4.cell? ⟨we.heap.size + 1 + 1, 0, none⟩ = some (.int .i64 0) := HA4.out.x8.cell 0
  have g81 : W4.cell? ⟨we.heap.size + 1 + 1, 1, none⟩ = some (.string ⟨#[]⟩) := HA4.out.x8.cell 1
  have g82 : W4.cell? ⟨we.heap.size + 1 + 1, 2, none⟩ = some (.string ⟨#[]⟩) := HA4.out.x8.cell 2
  have g83 : W4.cell? ⟨we.heap.size + 1 + 1, 3, none⟩ = some (.string ⟨#[]⟩) := HA4.out.x8.cell 3
  have g84 : W4.cell? ⟨we.heap.size + 1 + 1, 4, none⟩ = some (.int .u64 0) := HA4.out.x8.cell 4
  have g85 : W4.cell? ⟨we.heap.size + 1 + 1, 5, none⟩ = some (.bool false) := HA4.out.x8.cell 5
  have g86 : W4.cell? ⟨we.heap.size + 1 + 1, 6, none⟩ = some (.bool false) := HA4.out.x8.cell 6
  have g87 : W4.cell? ⟨we.heap.size + 1 + 1, 7, none⟩ = some (.bool false) := HA4.out.x8.cell 7
  have f80 : W4.frozen? ⟨we.heap.size + 1 + 1, 0, none⟩ = false := HA4.out.x8.frozen 0
  have f81 : W4.frozen? ⟨we.heap.size + 1 + 1, 1, none⟩ = false := HA4.out.x8.frozen 1
  have f82 : W4.frozen? ⟨we.heap.size + 1 + 1, 2, none⟩ = false := HA4.out.x8.frozen 2
  have f83 : W4.frozen? ⟨we.heap.size + 1 + 1, 3, none⟩ = false := HA4.out.x8.frozen 3
  have f84 : W4.frozen? ⟨we.heap.size + 1 + 1, 4, none⟩ = false := HA4.out.x8.frozen 4
  have f85 : W4.frozen? ⟨we.heap.size + 1 + 1, 5, none⟩ = false := HA4.out.x8.frozen 5
  have f86 : W4.frozen? ⟨we.heap.size + 1 + 1, 6, none⟩ = false := HA4.out.x8.frozen 6
  have f87 : W4.frozen? ⟨we.heap.size + 1 + 1, 7, none⟩ = false := HA4.out.x8.frozen 7
  have z0 : (stored8 W4 (we.heap.size + 1 + 1) (.int .i64 n) (.string now) (.string was) (.string now) (.int .u64 s) (.bool true) (.bool ahead) (.bool ahead)).cell? ⟨we.heap.size + 1 + 1, 0, none⟩ = some (.int .i64 n) := HZ.out.x8.cell 0
  have z1 : (stored8 W4 (we.heap.size + 1 + 1) (.int .i64 n) (.string now) (.string was) (.string now) (.int .u64 s) (.bool true) (.bool ahead) (.bool ahead)).cell? ⟨we.heap.size + 1 + 1, 1, none⟩ = some (.string now) := HZ.out.x8.cell 1
  have z2 : (stored8 W4 (we.heap.size + 1 + 1) (.int .i64 n) (.string now) (.string was) (.string now) (.int .u64 s) (.bool true) (.bool ahead) (.bool ahead)).cell? ⟨we.heap.size + 1 + 1, 2, none⟩ = some (.string was) := HZ.out.x8.cell 2
  have z3 : (stored8 W4 (we.heap.size + 1 + 1) (.int .i64 n) (.string now) (.string was) (.string now) (.int .u64 s) (.bool true) (.bool ahead) (.bool ahead)).cell? ⟨we.heap.size + 1 + 1, 3, none⟩ = some (.string now) := HZ.out.x8.cell 3
  have z4 : (stored8 W4 (we.heap.size + 1 + 1) (.int .i64 n) (.string now) (.string was) (.string now) (.int .u64 s) (.bool true) (.bool ahead) (.bool ahead)).cell? ⟨we.heap.size + 1 + 1, 4, none⟩ = some (.int .u64 s) := HZ.out.x8.cell 4
  have z5 : (stored8 W4 (we.heap.size + 1 + 1) (.int .i64 n) (.string now) (.string was) (.string now) (.int .u64 s) (.bool true) (.bool ahead) (.bool ahead)).cell? ⟨we.heap.size + 1 + 1, 5, none⟩ = some (.bool true) := HZ.out.x8.cell 5
  have z6 : (stored8 W4 (we.heap.size + 1 + 1) (.int .i64 n) (.string now) (.string was) (.string now) (.int .u64 s) (.bool true) (.bool ahead) (.bool ahead)).cell? ⟨we.heap.size + 1 + 1, 6, none⟩ = some (.bool ahead) := HZ.out.x8.cell 6
  have z7 : (stored8 W4 (we.heap.size + 1 + 1) (.int .i64 n) (.string now) (.string was) (.string now) (.int .u64 s) (.bool true) (.bool ahead) (.bool ahead)).cell? ⟨we.heap.size + 1 + 1, 7, none⟩ = some (.bool ahead) := HZ.out.x8.cell 7
  unfold stored8 at z0 z1 z2 z3 z4 z5 z6 z7
  go_wp2_with fail
  refine bodyPost_ret (v := .tuple #[.agg #[.int .i64 n, .string now, .string was, .string now, .int .u64 s, .bool true, .bool ahead, .bool ahead], .bool true]) (by simp [results, Tryz.results7, go_sem, z0, z1, z2, z3, z4, z5, z6, z7]) rfl ?_
  exact ⟨⟨A4, (⟨n, now, was, now, s, true, ahead, ahead⟩ : OwnV), T, rfl, (by have := HZ.out.pi.room (F' := F + 400) (N' := N + 2) (by omega) (by omega); rw [HO.out] at this; exact this), HZ.out.mv⟩⟩

end

end Go.Proofs.YtjemeopafkafgaaGreat

namespace Go.Proofs.YtjemeopafkafgaaGreat
open Go.RowKit Go.Sort
set_option linter.unusedVariables false
set_option linter.unusedSimpArgs false

section
variable {w we wx wy w' : World} {A0 A A' : Nat → Prop} {m p lp : Nat} {H : Nat → List ByteArray → Fk → Prop} {os os' : Nat → OwnV} {T T' : Nat → ByteArray} {F F' N N' who : Nat}

theorem TxOneEmixed : Tryz.prog.follows .mixedOrders = true := by kernel_rfl

set_option maxHeartbeats 3200000 in
set_option maxRecDepth 20000 in
theorem one_back (hH : HOk H) (h : PI w we A m p lp H os T F N) (hw : who < 3) (hF : F + 1000 ≤ 4194304) (hN : N ≤ 80000) (hn : (os who).n ≠ 0) (hh : (os who).has = true) (wv : Int) (S : ByteArray) (hS : S.size ≤ 9223372036854775807) :
    Calls Tryz.prog 7 #[.pointer (some ⟨m, 0, none⟩), .int .i64 who, .agg (os who).cells, .agg #[.int .i64 5, .int .i64 wv, .string S]] we (OneOut w we A m p lp H os F N who) := by
  obtain ⟨n, now, was, saved, save, has, ahead, aheadS, HO⟩ : ∃ n now was saved save has ahead aheadS, Hid (os who = ⟨n, now, was, saved, save, has, ahead, aheadS⟩) := ⟨_, _, _, _, _, _, _, _, rfl⟩
  have HPAR : Hid ((os who).cells = #[.int .i64 n, .string now, .string was, .string saved, .int .u64 save, .bool has, .bool ahead, .bool aheadS]) := by show _ = _; rw [HO.out]; rfl
  have HZO : Hid (own0.cells = #[.int .i64 0, .string ⟨#[]⟩, .string ⟨#[]⟩, .string ⟨#[]⟩, .int .u64 0, .bool false, .bool false, .bool false]) := rfl
  obtain ⟨W, HW⟩ : ∃ W, Hid (W = (((we.alloc (.cells (os who).cells 30)).alloc (.cells #[.int .i64 5, .int .i64 wv, .string S] 33)).alloc (.cells own0.cells 30))) := ⟨_, rfl⟩
  have H0 : Hid (OnAt w we W A A m p lp H os T F N (os who).cells #[.int .i64 5, .int .i64 wv, .string S] own0.cells) := by show OnAt _ _ _ _ _ _ _ _ _ _ _ _ _ _ _ _; rw [HW.out]; exact OnAt.start h
  have f2 : W.frozen? ⟨we.heap.size + 1, 2, none⟩ = false := H0.out.x7.frozen 2
  have hw0 : w.heap.size ≤ we.heap.size := h.bel.size
  have c2 : W.cell? ⟨we.heap.size + 1, 2, none⟩ = some (.string S) := H0.out.x7.cell 2
  have HH := hidx h
  clear h
  rw [HPAR.out]
  go_enter Tryz.func7, Tryz.ntmps7
  go_upto_region 1 with fail
  rw [← HPAR.out, ← HZO.out, ← HW.out]
  clear HW
  have HCE : Hid ((os who).cells = #[.int .i64 n, .string now, .string was, .string saved, .int .u64 save, .bool has, .bool ahead, .bool aheadS]) := HPAR
  clear HPAR
  go_upto_if 31 with fail
  go_cut [] from 28 to 35 (fun wx => ∃ S' : ByteArray, S'.size ≤ 20 ∧ Hid (OnAt w we wx A A m p lp H os T F N (os who).cells #[.int .i64 5, .int .i64 wv, .string S'] own0.cells))
  case first =>
    by_cases hlong : 20 < S.size
    · have s1 : decide ((20 : Int) < (S.size : Int)) = true := by simp; omega
      have s1' : decide (20 < S.size) = true := by simp; omega
      have s2 : (20 : Int) ≤ (S.size : Int) := by omega
      have s3 : 20 ≤ S.size := by omega
      obtain ⟨S', HS'⟩ : ∃ S', Hid (S' = S.extract 0 20) := ⟨_, rfl⟩
      have HE : Hid (OnAt w we (W.setCell ⟨we.heap.size + 1, 2, none⟩ (.string S')) A A m p lp H os T F N (os who).cells #[.int .i64 5, .int .i64 wv, .string S'] own0.cells) := hidx (H0.out.set7 hw0 2 (.string S'))
      go_wp2_with fail
      try rw [← HS'.out]
      go_meet
      case rel => exact ⟨S', by rw [HS'.out]; simp; omega, HE⟩
    · have s1 : decide ((20 : Int) < (S.size : Int)) = false := by simp; omega
      have s1' : decide (20 < S.size) = false := by simp; omega
      go_wp2_with fail
      go_meet
      case rel => exact ⟨S, by omega, H0⟩
  obtain ⟨S', hS', HA⟩ := hcut
  clear H0 c2 f2 hS
  have hn0 : ¬ (n = 0) := by have := hn; rw [HO.out] at this; exact this
  have hn1 : ¬ ((n : Int) = 0) := by omega
  have hnn : (os who).n = n := by rw [HO.out]
  have hq : IntKind.i64.wrap ((who : Int) + 1) = (who : Int) + 1 := by rw [IntKind.wrap_i64]; omega
  have hcw : ((who + 1 : Nat) : Int) = (who : Int) + 1 := by omega
  have hh0 : has = true := by have := hh; rw [HO.out] at this; exact this
  subst hh0
  have k0 : wc.cell? ⟨we.heap.size + 1, 0, none⟩ = some (.int .i64 5) := HA.out.x7.cell 0
  have k2 : wc.cell? ⟨we.heap.size + 1, 2, none⟩ = some (.string S') := HA.out.x7.cell 2
  have c60 : wc.cell? ⟨we.heap.size, 0, none⟩ = some (.int .i64 n) := by have := HA.out.x6.cell 0; rw [HCE.out] at this; exact this
  have c65 : wc.cell? ⟨we.heap.size, 5, none⟩ = some (.bool true) := by have := HA.out.x6.cell 5; rw [HCE.out] at this; exact this
  have HX6 : Hid (BlkR wc (we.heap.size) #[.int .i64 n, .string now, .string was, .string saved, .int .u64 save, .bool true, .bool ahead, .bool aheadS] 30) := by have := HA.out.x6; rw [HCE.out] at this; exact this
  have HRL : Hid (∀ wy, wc.drew.alloc (.cells #[.pointer (some ⟨m, 0, none⟩)] 23) = wy → BlkR wy (we.heap.size) #[.int .i64 n, .string now, .string was, .string saved, .int .u64 save, .bool true, .bool ahead, .bool aheadS] 30 ∧ Calls Tryz.prog 22 #[.pointer (some ⟨m, 0, none⟩), .int .i64 n, .int .u64 save, .func (.func 75) #[] #[.pointer (some ⟨wc.drew.heap.size, 0, none⟩)]] wy fun e w' => e = .returned (.int .i64 0) ∧ ∃ A4, PI w w' A4 m p lp H (setK os who ⟨n, saved, was, saved, save, true, aheadS, aheadS⟩) (updV T (who + 1) saved) F N ∧ Moves A A4 wc w') := fun wy hwy => by
    have by1 : Below wc.heap.size wc wy := by rw [← hwy]; exact ((Below.refl _ _).drew).alloc (Nat.le_refl _) _
    have xb : Blk wy wc.drew.heap.size #[.pointer (some ⟨m, 0, none⟩)] 23 := by rw [← hwy]; exact Blk.made _ _ _
    refine ⟨HX6.out.under by1 HX6.out.lt, ?_⟩
    have := pi_roll hH HA.out.pi hw hn hh (by omega) wc.drew.heap.size (Nat.le_refl _) by1 (xb.cell 0)
    simp only [HO.out] at this
    exact this
  go_upto_region 20 with fail
  refine wp_region_noPanic ?_
  refine wp_region_held_drew (S := (fun wy : World => BlkR wy (we.heap.size) #[.int .i64 n, .string now, .string was, .string saved, .int .u64 save, .bool true, .bool ahead, .bool aheadS] 30)) TxOneEmixed HX6.out (fun hH => ?_)
  refine wpAnyH_take (i := 0) (v := (.pointer (some ⟨m, 0, none⟩))) (by simp only [List.getElem?_toArray, List.getElem?_cons_zero]; rfl) (by kernel_rfl) (by kernel_rfl) (by kernel_rfl) (fun _ _ _ h => h) (Or.inl ⟨by rfl, ?_⟩) hH ?_
  · intro wz hSw
    clear hSw
    go_simp
  try simp only [Act.put, List.setIfInBounds_toArray, List.set_cons_zero, List.set_cons_succ]
  refine wpAnyH_take (i := 1) (v := (.pointer (some ⟨we.heap.size, 0, none⟩))) (by simp only [List.getElem?_toArray, List.getElem?_cons_succ, List.getElem?_cons_zero]; rfl) (by kernel_rfl) (by kernel_rfl) (by kernel_rfl) (fun _ _ _ h => h) (Or.inl ⟨by rfl, ?_⟩) hH ?_
  · intro wz hSw
    clear hSw
    go_simp
  try simp only [Act.put, List.setIfInBounds_toArray, List.set_cons_zero, List.set_cons_succ]
  refine wpAnyH_take (i := 2) (v := (.int .i64 n)) (by simp only [List.getElem?_toArray, List.getElem?_cons_succ, List.getElem?_cons_zero]; rfl) (by kernel_rfl) (by kernel_rfl) (by kernel_rfl) (fun _ _ _ h => h) (Or.inl ⟨by rfl, ?_⟩) hH ?_
  · intro wz hSw
    have s0 : wz.cell? ⟨we.heap.size, 0, none⟩ = some (.int .i64 n) := BlkR.cell hSw 0
    clear hSw
    go_simp
  try simp only [Act.put, List.setIfInBounds_toArray, List.set_cons_zero, List.set_cons_succ]
  refine wpAnyH_take (i := 3) (v := (.pointer (some ⟨we.heap.size, 4, none⟩))) (by simp only [List.getElem?_toArray, List.getElem?_cons_succ, List.getElem?_cons_zero]; rfl) (by kernel_rfl) (by kernel_rfl) (by kernel_rfl) (fun _ _ _ h => h) (Or.inl ⟨by rfl, ?_⟩) hH ?_
  · intro wz hSw
    clear hSw
    go_simp
  try simp only [Act.put, List.setIfInBounds_toArray, List.set_cons_zero, List.set_cons_succ]
  refine wpAnyH_take (i := 4) (v := (.int .u64 save)) (by simp only [List.getElem?_toArray, List.getElem?_cons_succ, List.getElem?_cons_zero]; rfl) (by kernel_rfl) (by kernel_rfl) (by kernel_rfl) (fun _ _ _ h => h) (Or.inl ⟨by rfl, ?_⟩) hH ?_
  · intro wz hSw
    have s4 : wz.cell? ⟨we.heap.size, 4, none⟩ = some (.int .u64 save) := BlkR.cell hSw 4
    clear hSw
    go_simp
  try simp only [Act.put, List.setIfInBounds_toArray, List.set_cons_zero, List.set_cons_succ]
  refine wpAnyH_take (i := 5) (v := (.pointer (some ⟨m, 0, none⟩))) (by simp only [List.getElem?_toArray, List.getElem?_cons_succ, List.getElem?_cons_zero]; rfl) (by kernel_rfl) (by kernel_rfl) (by kernel_rfl) (fun _ _ _ h => h) (Or.inl ⟨by rfl, ?_⟩) hH ?_
  · intro wz hSw
    clear hSw
    go_simp
  try simp only [Act.put, List.setIfInBounds_toArray, List.set_cons_zero, List.set_cons_succ]
  refine wpAnyH_ready (rs := [6]) (by kernel_rfl) (by simp) ?_
  refine AllReadyH.cons (i := 6) (by simp only [List.getElem?_toArray, List.getElem?_cons_succ, List.getElem?_cons_zero]; rfl) (fun K hK => ?_) AllReadyH.nil
  go_simp
  refine (back_any m _).mono ?_
  rintro e wb ⟨rfl, hb⟩
  obtain ⟨cb, rl⟩ := HRL.out _ hb
  clear hb
  refine hK.out _ _ (cb) (fun hH1 => ?_)
  clear hK K hH
  try simp only [Act.put, List.setIfInBounds_toArray, List.set_cons_zero, List.set_cons_succ]
  refine wpAnyH_ready (rs := [7]) (by kernel_rfl) (by simp) ?_
  refine AllReadyH.cons (i := 7) (by simp only [List.getElem?_toArray, List.getElem?_cons_succ, List.getElem?_cons_zero]; rfl) (fun K hK => ?_) AllReadyH.nil
  go_simp
  refine rl.mono ?_
  rintro e wr ⟨rfl, A4, pi4, mv4⟩
  have HA4 := hidx (HA.out.step pi4 mv4)
  rw [HCE.out] at HA4
  clear rl cb
  refine hK.out _ _ (HA4.out.x6) (fun hH2 => ?_)
  clear hK K hH1
  try simp only [Act.put, List.setIfInBounds_toArray, List.set_cons_zero, List.set_cons_succ]
  refine wpAnyH_take (i := 8) (v := (.int .i64 0)) (by simp only [List.getElem?_toArray, List.getElem?_cons_succ, List.getElem?_cons_zero]; rfl) (by kernel_rfl) (by kernel_rfl) (by kernel_rfl) (fun _ _ _ h => h) (Or.inl ⟨by rfl, ?_⟩) hH2 ?_
  · intro wz hSw
    clear hSw
    go_simp
  try simp only [Act.put, List.setIfInBounds_toArray, List.set_cons_zero, List.set_cons_succ]
  refine wpAnyH_done (by kernel_rfl) ?_ _
  refine NoPanic.normal ?_
  clear k0 k2 c60 c65 HRL
  have HA5 := hidx ((HA4.out.set6 hw0 1 (.string saved)).set6 hw0 6 (.bool aheadS))
  have e61 : wr.cell? ⟨we.heap.size, 3, none⟩ = some (.string saved) := HA4.out.x6.cell 3
  have e62 : wr.cell? ⟨we.heap.size, 7, none⟩ = some (.bool aheadS) := HA4.out.x6.cell 7
  have e63 : wr.cell? ⟨we.heap.size, 1, none⟩ = some (.string now) := HA4.out.x6.cell 1
  have e64 : wr.cell? ⟨we.heap.size, 6, none⟩ = some (.bool ahead) := HA4.out.x6.cell 6
  have e65 : wr.frozen? ⟨we.heap.size, 1, none⟩ = false := HA4.out.x6.frozen 1
  have e66 : wr.frozen? ⟨we.heap.size, 6, none⟩ = false := HA4.out.x6.frozen 6
  obtain ⟨W5, HW5⟩ : ∃ W, Hid (W = (wr.setCell ⟨we.heap.size, 1, none⟩ (.string saved)).setCell ⟨we.heap.size, 6, none⟩ (.bool aheadS)) := ⟨_, rfl⟩
  rw [← HW5.out] at HA5
  have HA6 : Hid (OnAt w we W5 A A4 m p lp H (setK os who ⟨n, saved, was, saved, save, true, aheadS, aheadS⟩) (updV T (who + 1) saved) F N #[.int .i64 n, .string saved, .string was, .string saved, .int .u64 save, .bool true, .bool aheadS, .bool aheadS] #[.int .i64 5, .int .i64 wv, .string S'] own0.cells) := HA5.out
  have HSL := hidx (pi_slot (HA6.out.below (wy := W5.drew) ((Below.refl _ _).drew)).pi who (by omega))
  rw [hcw, updV_get] at HSL
  clear HA4 HA5 pi4 mv4
  go_upto_region 22 with fail
  rw [← HW5.out]
  clear HW5 e61 e62 e63 e64 e65 e66
  refine wp_region_noPanic ?_
  refine wp_region_held_drew (S := (fun wy : World => BlkR wy (we.heap.size) #[.int .i64 n, .string saved, .string was, .string saved, .int .u64 save, .bool true, .bool aheadS, .bool aheadS] 30)) TxOneEmixed (HA6.out.below (wy := W5.drew) ((Below.refl _ _).drew)).x6 (fun hH => ?_)
  refine wpAnyH_take (i := 0) (v := (.agg #[.int .i64 n, .string saved, .string was, .string saved, .int .u64 save, .bool true, .bool aheadS, .bool aheadS])) (by simp only [List.getElem?_toArray, List.getElem?_cons_zero]; rfl) (by kernel_rfl) (by kernel_rfl) (by kernel_rfl) (fun _ _ _ h => h) (Or.inl ⟨by rfl, ?_⟩) hH ?_
  · intro wz hSw
    have s0 : wz.cell? ⟨we.heap.size, 0, none⟩ = some (.int .i64 n) := BlkR.cell hSw 0
    have s1 : wz.cell? ⟨we.heap.size, 1, none⟩ = some (.string saved) := BlkR.cell hSw 1
    have s2 : wz.cell? ⟨we.heap.size, 2, none⟩ = some (.string was) := BlkR.cell hSw 2
    have s3 : wz.cell? ⟨we.heap.size, 3, none⟩ = some (.string saved) := BlkR.cell hSw 3
    have s4 : wz.cell? ⟨we.heap.size, 4, none⟩ = some (.int .u64 save) := BlkR.cell hSw 4
    have s5 : wz.cell? ⟨we.heap.size, 5, none⟩ = some (.bool true) := BlkR.cell hSw 5
    have s6 : wz.cell? ⟨we.heap.size, 6, none⟩ = some (.bool aheadS) := BlkR.cell hSw 6
    have s7 : wz.cell? ⟨we.heap.size, 7, none⟩ = some (.bool aheadS) := BlkR.cell hSw 7
    clear hSw
    go_simp
  try simp only [Act.put, List.setIfInBounds_toArray, List.set_cons_zero, List.set_cons_succ]
  refine wpAnyH_take (i := 1) (v := (.int .i64 0)) (by simp only [List.getElem?_toArray, List.getElem?_cons_succ, List.getElem?_cons_zero]; rfl) (by kernel_rfl) (by kernel_rfl) (by kernel_rfl) (fun _ _ _ h => h) (Or.inl ⟨by rfl, ?_⟩) hH ?_
  · intro wz hSw
    clear hSw
    go_simp
  try simp only [Act.put, List.setIfInBounds_toArray, List.set_cons_zero, List.set_cons_succ]
  refine wpAnyH_take (i := 2) (v := (.bool true)) (by simp only [List.getElem?_toArray, List.getElem?_cons_succ, List.getElem?_cons_zero]; rfl) (by kernel_rfl) (by kernel_rfl) (by kernel_rfl) (fun _ _ _ h => h) (Or.inl ⟨by rfl, ?_⟩) hH ?_
  · intro wz hSw
    clear hSw
    go_simp
  try simp only [Act.put, List.setIfInBounds_toArray, List.set_cons_zero, List.set_cons_succ]
  refine wpAnyH_take (i := 3) (v := (.bool true)) (by simp only [List.getElem?_toArray, List.getElem?_cons_succ, List.getElem?_cons_zero]; rfl) (by kernel_rfl) (by kernel_rfl) (by kernel_rfl) (fun _ _ _ h => h) (Or.inl ⟨by rfl, ?_⟩) hH ?_
  · intro wz hSw
    clear hSw
    go_simp
  try simp only [Act.put, List.setIfInBounds_toArray, List.set_cons_zero, List.set_cons_succ]
  refine wpAnyH_take (i := 4) (v := (.pointer (some ⟨m, 0, none⟩))) (by simp only [List.getElem?_toArray, List.getElem?_cons_succ, List.getElem?_cons_zero]; rfl) (by kernel_rfl) (by kernel_rfl) (by kernel_rfl) (fun _ _ _ h => h) (Or.inl ⟨by rfl, ?_⟩) hH ?_
  · intro wz hSw
    clear hSw
    go_simp
  try simp only [Act.put, List.setIfInBounds_toArray, List.set_cons_zero, List.set_cons_succ]
  refine wpAnyH_take (i := 5) (v := (.int .i64 who)) (by simp only [List.getElem?_toArray, List.getElem?_cons_succ, List.getElem?_cons_zero]; rfl) (by kernel_rfl) (by kernel_rfl) (by kernel_rfl) (fun _ _ _ h => h) (Or.inl ⟨by rfl, ?_⟩) hH ?_
  · intro wz hSw
    clear hSw
    go_simp
  try simp only [Act.put, List.setIfInBounds_toArray, List.set_cons_zero, List.set_cons_succ]
  refine wpAnyH_take (i := 6) (v := (.int .i64 ((who : Int) + 1))) (by simp only [List.getElem?_toArray, List.getElem?_cons_succ, List.getElem?_cons_zero]; rfl) (by kernel_rfl) (by kernel_rfl) (by kernel_rfl) (fun _ _ _ h => h) (Or.inl ⟨by rfl, ?_⟩) hH ?_
  · intro wz hSw
    clear hSw
    go_simp
  try simp only [Act.put, List.setIfInBounds_toArray, List.set_cons_zero, List.set_cons_succ]
  refine wpAnyH_take (i := 8) (v := (.pointer (some ⟨we.heap.size, 1, none⟩))) (by simp only [List.getElem?_toArray, List.getElem?_cons_succ, List.getElem?_cons_zero]; rfl) (by kernel_rfl) (by kernel_rfl) (by kernel_rfl) (fun _ _ _ h => h) (Or.inl ⟨by rfl, ?_⟩) hH ?_
  · intro wz hSw
    clear hSw
    go_simp
  try simp only [Act.put, List.setIfInBounds_toArray, List.set_cons_zero, List.set_cons_succ]
  refine wpAnyH_take (i := 9) (v := (.string saved)) (by simp only [List.getElem?_toArray, List.getElem?_cons_succ, List.getElem?_cons_zero]; rfl) (by kernel_rfl) (by kernel_rfl) (by kernel_rfl) (fun _ _ _ h => h) (Or.inl ⟨by rfl, ?_⟩) hH ?_
  · intro wz hSw
    have s1 : wz.cell? ⟨we.heap.size, 1, none⟩ = some (.string saved) := BlkR.cell hSw 1
    clear hSw
    go_simp
  try simp only [Act.put, List.setIfInBounds_toArray, List.set_cons_zero, List.set_cons_succ]
  refine wpAnyH_ready (rs := [7]) (by kernel_rfl) (by simp) ?_
  refine AllReadyH.cons (i := 7) (by simp only [List.getElem?_toArray, List.getElem?_cons_succ, List.getElem?_cons_zero]; rfl) (fun K hK => ?_) AllReadyH.nil
  go_simp
  refine HSL.out.mono ?_
  rintro e wv ⟨rfl, bv⟩
  have HAV := hidx (HA6.out.below ((Below.refl _ _).drew.trans bv))
  clear bv
  refine hK.out _ _ (HAV.out.x6) (fun hH1 => ?_)
  clear hK K hH
  try simp only [Act.put, List.setIfInBounds_toArray, List.set_cons_zero, List.set_cons_succ]
  refine wpAnyH_take (i := 10) (v := (.bool true)) (by simp only [List.getElem?_toArray, List.getElem?_cons_succ, List.getElem?_cons_zero]; rfl) (by kernel_rfl) (by kernel_rfl) (by kernel_rfl) (fun _ _ _ h => h) (Or.inl ⟨by rfl, ?_⟩) hH1 ?_
  · intro wz hSw
    clear hSw
    go_simp
  try simp only [Act.put, List.setIfInBounds_toArray, List.set_cons_zero, List.set_cons_succ]
  refine wpAnyH_take (i := 11) (v := (.bool true)) (by simp only [List.getElem?_toArray, List.getElem?_cons_succ, List.getElem?_cons_zero]; rfl) (by kernel_rfl) (by kernel_rfl) (by kernel_rfl) (fun _ _ _ h => h) (Or.inl ⟨by rfl, ?_⟩) hH1 ?_
  · intro wz hSw
    clear hSw
    go_simp
  try simp only [Act.put, List.setIfInBounds_toArray, List.set_cons_zero, List.set_cons_succ]
  refine wpAnyH_ready (rs := [12]) (by kernel_rfl) (by simp) ?_
  refine AllReadyH.cons (i := 12) (by simp only [List.getElem?_toArray, List.getElem?_cons_succ, List.getElem?_cons_zero]; rfl) (fun K hK => ?_) AllReadyH.nil
  have HZ := hidx (HAV.out.row8 hw0 (.int .i64 n) (.string saved) (.string was) (.string saved) (.int .u64 save) (.bool true) (.bool aheadS) (.bool aheadS))
  have g80 : wv.cell? ⟨we.heap.size + 1 + 1, 0, none⟩ = some (.int .i64 0) := HAV.out.x8.cell 0
  have g81 : wv.cell? ⟨we.heap.size + 1 + 1, 1, none⟩ = some (.string ⟨#[]⟩) := HAV.out.x8.cell 1
  have g82 : wv.cell? ⟨we.heap.size + 1 + 1, 2, none⟩ = some (.string ⟨#[]⟩) := HAV.out.x8.cell 2
  have g83 : wv.cell? ⟨we.heap.size + 1 + 1, 3, none⟩ = some (.string ⟨#[]⟩) := HAV.out.x8.cell 3
  have g84 : wv.cell? ⟨we.heap.size + 1 + 1, 4, none⟩ = some (.int .u64 0) := HAV.out.x8.cell 4
  have g85 : wv.cell? ⟨we.heap.size + 1 + 1, 5, none⟩ = some (.bool false) := HAV.out.x8.cell 5
  have g86 : wv.cell? ⟨we.heap.size + 1 + 1, 6, none⟩ = some (.bool false) := HAV.out.x8.cell 6
  have g87 : wv.cell? ⟨we.heap.size + 1 + 1, 7, none⟩ = some (.bool false) := HAV.out.x8.cell 7
  have f80 : wv.frozen? ⟨we.heap.size + 1 + 1, 0, none⟩ = false := HAV.out.x8.frozen 0
  have f81 : wv.frozen? ⟨we.heap.size + 1 + 1, 1, none⟩ = false := HAV.out.x8.frozen 1
  have f82 : wv.frozen? ⟨we.heap.size + 1 + 1, 2, none⟩ = false := HAV.out.x8.frozen 2
  have f83 : wv.frozen? ⟨we.heap.size + 1 + 1, 3, none⟩ = false := HAV.out.x8.frozen 3
  have f84 : wv.frozen? ⟨we.heap.size + 1 + 1, 4, none⟩ = false := HAV.out.x8.frozen 4
  have f85 : wv.frozen? ⟨we.heap.size + 1 + 1, 5, none⟩ = false := HAV.out.x8.frozen 5
  have f86 : wv.frozen? ⟨we.heap.size + 1 + 1, 6, none⟩ = false := HAV.out.x8.frozen 6
  have f87 : wv.frozen? ⟨we.heap.size + 1 + 1, 7, none⟩ = false := HAV.out.x8.frozen 7
  go_simp
  refine hK.out _ _ (HZ.out.x6) (fun hH2 => ?_)
  clear hK K hH1
  try simp only [Act.put, List.setIfInBounds_toArray, List.set_cons_zero, List.set_cons_succ]
  refine wpAnyH_take (i := 13) (v := (.bool true)) (by simp only [List.getElem?_toArray, List.getElem?_cons_succ, List.getElem?_cons_zero]; rfl) (by kernel_rfl) (by kernel_rfl) (by kernel_rfl) (fun _ _ _ h => h) (Or.inl ⟨by rfl, ?_⟩) hH2 ?_
  · intro wz hSw
    clear hSw
    go_simp
  try simp only [Act.put, List.setIfInBounds_toArray, List.set_cons_zero, List.set_cons_succ]
  refine wpAnyH_done (by kernel_rfl) ?_ _
  refine NoPanic.normal ?_
  have z0 : (stored8 wv (we.heap.size + 1 + 1) (.int .i64 n) (.string saved) (.string was) (.string saved) (.int .u64 save) (.bool true) (.bool aheadS) (.bool aheadS)).cell? ⟨we.heap.size + 1 + 1, 0, none⟩ = some (.int .i64 n) := HZ.out.x8.cell 0
  have z1 : (stored8 wv (we.heap.size + 1 + 1) (.int .i64 n) (.string saved) (.string was) (.string saved) (.int .u64 save) (.bool true) (.bool aheadS) (.bool aheadS)).cell? ⟨we.heap.size + 1 + 1, 1, none⟩ = some (.string saved) := HZ.out.x8.cell 1
  have z2 : (stored8 wv (we.heap.size + 1 + 1) (.int .i64 n) (.string saved) (.string was) (.string saved) (.int .u64 save) (.bool true) (.bool aheadS) (.bool aheadS)).cell? ⟨we.heap.size + 1 + 1, 2, none⟩ = some (.string was) := HZ.out.x8.cell 2
  have z3 : (stored8 wv (we.heap.size + 1 + 1) (.int .i64 n) (.string saved) (.string was) (.string saved) (.int .u64 save) (.bool true) (.bool aheadS) (.bool aheadS)).cell? ⟨we.heap.size + 1 + 1, 3, none⟩ = some (.string saved) := HZ.out.x8.cell 3
  have z4 : (stored8 wv (we.heap.size + 1 + 1) (.int .i64 n) (.string saved) (.string was) (.string saved) (.int .u64 save) (.bool true) (.bool aheadS) (.bool aheadS)).cell? ⟨we.heap.size + 1 + 1, 4, none⟩ = some (.int .u64 save) := HZ.out.x8.cell 4
  have z5 : (stored8 wv (we.heap.size + 1 + 1) (.int .i64 n) (.string saved) (.string was) (.string saved) (.int .u64 save) (.bool true) (.bool aheadS) (.bool aheadS)).cell? ⟨we.heap.size + 1 + 1, 5, none⟩ = some (.bool true) := HZ.out.x8.cell 5
  have z6 : (stored8 wv (we.heap.size + 1 + 1) (.int .i64 n) (.string saved) (.string was) (.string saved) (.int .u64 save) (.bool true) (.bool aheadS) (.bool aheadS)).cell? ⟨we.heap.size + 1 + 1, 6, none⟩ = some (.bool aheadS) := HZ.out.x8.cell 6
  have z7 : (stored8 wv (we.heap.size + 1 + 1) (.int .i64 n) (.string saved) (.string was) (.string saved) (.int .u64 save) (.bool true) (.bool aheadS) (.bool aheadS)).cell? ⟨we.heap.size + 1 + 1, 7, none⟩ = some (.bool aheadS) := HZ.out.x8.cell 7
  unfold stored8 at z0 z1 z2 z3 z4 z5 z6 z7
  go_wp2_with fail
  refine bodyPost_ret (v := .tuple #[.agg #[.int .i64 n, .string saved, .string was, .string saved, .int .u64 save, .bool true, .bool aheadS, .bool aheadS], .bool true]) (by simp [results, Tryz.results7, go_sem, z0, z1, z2, z3, z4, z5, z6, z7]) rfl ?_
  exact ⟨⟨A4, (⟨n, saved, was, saved, save, true, aheadS, aheadS⟩ : OwnV), _, rfl, HZ.out.pi.room (F' := F + 400) (N' := N + 2) (by omega) (by omega), HZ.out.mv⟩⟩

end

end Go.Proofs.YtjemeopafkafgaaGreat

namespace Go.Proofs.YtjemeopafkafgaaGreat
open Go.RowKit Go.Sort
set_option linter.unusedVariables false
set_option linter.unusedSimpArgs false

section
variable {w we wx wy w' : World} {A0 A A' : Nat → Prop} {m p lp : Nat} {H : Nat → List ByteArray → Fk → Prop} {os os' : Nat → OwnV} {T T' : Nat → ByteArray} {F F' N N' who : Nat}

set_option maxHeartbeats 3200000 in
set_option maxRecDepth 20000 in
theorem one_back0 (hH : HOk H) (h : PI w we A m p lp H os T F N) (hw : who < 3) (hF : F + 1000 ≤ 4194304) (hN : N ≤ 80000) (hn : (os who).n ≠ 0) (hh : (os who).has = false) (wv : Int) (S : ByteArray) (hS : S.size ≤ 9223372036854775807) :
    Calls Tryz.prog 7 #[.pointer (some ⟨m, 0, none⟩), .int .i64 who, .agg (os who).cells, .agg #[.int .i64 5, .int .i64 wv, .string S]] we (OneOut w we A m p lp H os F N who) := by
  obtain ⟨n, now, was, saved, save, has, ahead, aheadS, HO⟩ : ∃ n now was saved save has ahead aheadS, Hid (os who = ⟨n, now, was, saved, save, has, ahead, aheadS⟩) := ⟨_, _, _, _, _, _, _, _, rfl⟩
  have HPAR : Hid ((os who).cells = #[.int .i64 n, .string now, .string was, .string saved, .int .u64 save, .bool has, .bool ahead, .bool aheadS]) := by show _ = _; rw [HO.out]; rfl
  have HZO : Hid (own0.cells = #[.int .i64 0, .string ⟨#[]⟩, .string ⟨#[]⟩, .string ⟨#[]⟩, .int .u64 0, .bool false, .bool false, .bool false]) := rfl
  obtain ⟨W, HW⟩ : ∃ W, Hid (W = (((we.alloc (.cells (os who).cells 30)).alloc (.cells #[.int .i64 5, .int .i64 wv, .string S] 33)).alloc (.cells own0.cells 30))) := ⟨_, rfl⟩
  have H0 : Hid (OnAt w we W A A m p lp H os T F N (os who).cells #[.int .i64 5, .int .i64 wv, .string S] own0.cells) := by show OnAt _ _ _ _ _ _ _ _ _ _ _ _ _ _ _ _; rw [HW.out]; exact OnAt.start h
  have f2 : W.frozen? ⟨we.heap.size + 1, 2, none⟩ = false := H0.out.x7.frozen 2
  have hw0 : w.heap.size ≤ we.heap.size := h.bel.size
  have c2 : W.cell? ⟨we.heap.size + 1, 2, none⟩ = some (.string S) := H0.out.x7.cell 2
  have HH := hidx h
  clear h
  rw [HPAR.out]
  go_enter Tryz.func7, Tryz.ntmps7
  go_upto_region 1 with fail
  rw [← HPAR.out, ← HZO.out, ← HW.out]
  clear HW
  have HCE : Hid ((os who).cells = #[.int .i64 n, .string now, .string was, .string saved, .int .u64 save, .bool has, .bool ahead, .bool aheadS]) := HPAR
  clear HPAR
  go_upto_if 31 with fail
  go_cut [] from 28 to 35 (fun wx => ∃ S' : ByteArray, S'.size ≤ 20 ∧ Hid (OnAt w we wx A A m p lp H os T F N (os who).cells #[.int .i64 5, .int .i64 wv, .string S'] own0.cells))
  case first =>
    by_cases hlong : 20 < S.size
    · have s1 : decide ((20 : Int) < (S.size : Int)) = true := by simp; omega
      have s1' : decide (20 < S.size) = true := by simp; omega
      have s2 : (20 : Int) ≤ (S.size : Int) := by omega
      have s3 : 20 ≤ S.size := by omega
      obtain ⟨S', HS'⟩ : ∃ S', Hid (S' = S.extract 0 20) := ⟨_, rfl⟩
      have HE : Hid (OnAt w we (W.setCell ⟨we.heap.size + 1, 2, none⟩ (.string S')) A A m p lp H os T F N (os who).cells #[.int .i64 5, .int .i64 wv, .string S'] own0.cells) := hidx (H0.out.set7 hw0 2 (.string S'))
      go_wp2_with fail
      try rw [← HS'.out]
      go_meet
      case rel => exact ⟨S', by rw [HS'.out]; simp; omega, HE⟩
    · have s1 : decide ((20 : Int) < (S.size : Int)) = false := by simp; omega
      have s1' : decide (20 < S.size) = false := by simp; omega
      go_wp2_with fail
      go_meet
      case rel => exact ⟨S, by omega, H0⟩
  obtain ⟨S', hS', HA⟩ := hcut
  clear H0 c2 f2 hS
  have hn0 : ¬ (n = 0) := by have := hn; rw [HO.out] at this; exact this
  have hn1 : ¬ ((n : Int) = 0) := by omega
  have hh0 : has = false := by have := hh; rw [HO.out] at this; exact this
  subst hh0
  have k0 : wc.cell? ⟨we.heap.size + 1, 0, none⟩ = some (.int .i64 5) := HA.out.x7.cell 0
  have k2 : wc.cell? ⟨we.heap.size + 1, 2, none⟩ = some (.string S') := HA.out.x7.cell 2
  have c60 : wc.cell? ⟨we.heap.size, 0, none⟩ = some (.int .i64 n) := by have := HA.out.x6.cell 0; rw [HCE.out] at this; exact this
  have c61 : wc.cell? ⟨we.heap.size, 1, none⟩ = some (.string now) := by have := HA.out.x6.cell 1; rw [HCE.out] at this; exact this
  have c62 : wc.cell? ⟨we.heap.size, 2, none⟩ = some (.string was) := by have := HA.out.x6.cell 2; rw [HCE.out] at this; exact this
  have c63 : wc.cell? ⟨we.heap.size, 3, none⟩ = some (.string saved) := by have := HA.out.x6.cell 3; rw [HCE.out] at this; exact this
  have c64 : wc.cell? ⟨we.heap.size, 4, none⟩ = some (.int .u64 save) := by have := HA.out.x6.cell 4; rw [HCE.out] at this; exact this
  have c65 : wc.cell? ⟨we.heap.size, 5, none⟩ = some (.bool false) := by have := HA.out.x6.cell 5; rw [HCE.out] at this; exact this
  have c66 : wc.cell? ⟨we.heap.size, 6, none⟩ = some (.bool ahead) := by have := HA.out.x6.cell 6; rw [HCE.out] at this; exact this
  have c67 : wc.cell? ⟨we.heap.size, 7, none⟩ = some (.bool aheadS) := by have := HA.out.x6.cell 7; rw [HCE.out] at this; exact this
  go_upto_region 19 with fail
  have HZ := hidx (HA.out.row8 hw0 (.int .i64 n) (.string now) (.string was) (.string saved) (.int .u64 save) (.bool false) (.bool ahead) (.bool aheadS))
  have g80 : wc.cell? ⟨we.heap.size + 1 + 1, 0, none⟩ = some (.int .i64 0) := HA.out.x8.cell 0
  have g81 : wc.cell? ⟨we.heap.size + 1 + 1, 1, none⟩ = some (.string ⟨#[]⟩) := HA.out.x8.cell 1
  have g82 : wc.cell? ⟨we.heap.size + 1 + 1, 2, none⟩ = some (.string ⟨#[]⟩) := HA.out.x8.cell 2
  have g83 : wc.cell? ⟨we.heap.size + 1 + 1, 3, none⟩ = some (.string ⟨#[]⟩) := HA.out.x8.cell 3
  have g84 : wc.cell? ⟨we.heap.size + 1 + 1, 4, none⟩ = some (.int .u64 0) := HA.out.x8.cell 4
  have g85 : wc.cell? ⟨we.heap.size + 1 + 1, 5, none⟩ = some (.bool false) := HA.out.x8.cell 5
  have g86 : wc.cell? ⟨we.heap.size + 1 + 1, 6, none⟩ = some (.bool false) := HA.out.x8.cell 6
  have g87 : wc.cell? ⟨we.heap.size + 1 + 1, 7, none⟩ = some (.bool false) := HA.out.x8.cell 7
  have f80 : wc.frozen? ⟨we.heap.size + 1 + 1, 0, none⟩ = false := HA.out.x8.frozen 0
  have f81 : wc.frozen? ⟨we.heap.size + 1 + 1, 1, none⟩ = false := HA.out.x8.frozen 1
  have f82 : wc.frozen? ⟨we.heap.size + 1 + 1, 2, none⟩ = false := HA.out.x8.frozen 2
  have f83 : wc.frozen? ⟨we.heap.size + 1 + 1, 3, none⟩ = false := HA.out.x8.frozen 3
  have f84 : wc.frozen? ⟨we.heap.size + 1 + 1, 4, none⟩ = false := HA.out.x8.frozen 4
  have f85 : wc.frozen? ⟨we.heap.size + 1 + 1, 5, none⟩ = false := HA.out.x8.frozen 5
  have f86 : wc.frozen? ⟨we.heap.size + 1 + 1, 6, none⟩ = false := HA.out.x8.frozen 6
  have f87 : wc.frozen? ⟨we.heap.size + 1 + 1, 7, none⟩ = false := HA.out.x8.frozen 7
  have z0 : (stored8 wc (we.heap.size + 1 + 1) (.int .i64 n) (.string now) (.string was) (.string saved) (.int .u64 save) (.bool false) (.bool ahead) (.bool aheadS)).cell? ⟨we.heap.size + 1 + 1, 0, none⟩ = some (.int .i64 n) := HZ.out.x8.cell 0
  have z1 : (stored8 wc (we.heap.size + 1 + 1) (.int .i64 n) (.string now) (.string was) (.string saved) (.int .u64 save) (.bool false) (.bool ahead) (.bool aheadS)).cell? ⟨we.heap.size + 1 + 1, 1, none⟩ = some (.string now) := HZ.out.x8.cell 1
  have z2 : (stored8 wc (we.heap.size + 1 + 1) (.int .i64 n) (.string now) (.string was) (.string saved) (.int .u64 save) (.bool false) (.bool ahead) (.bool aheadS)).cell? ⟨we.heap.size + 1 + 1, 2, none⟩ = some (.string was) := HZ.out.x8.cell 2
  have z3 : (stored8 wc (we.heap.size + 1 + 1) (.int .i64 n) (.string now) (.string was) (.string saved) (.int .u64 save) (.bool false) (.bool ahead) (.bool aheadS)).cell? ⟨we.heap.size + 1 + 1, 3, none⟩ = some (.string saved) := HZ.out.x8.cell 3
  have z4 : (stored8 wc (we.heap.size + 1 + 1) (.int .i64 n) (.string now) (.string was) (.string saved) (.int .u64 save) (.bool false) (.bool ahead) (.bool aheadS)).cell? ⟨we.heap.size + 1 + 1, 4, none⟩ = some (.int .u64 save) := HZ.out.x8.cell 4
  have z5 : (stored8 wc (we.heap.size + 1 + 1) (.int .i64 n) (.string now) (.string was) (.string saved) (.int .u64 save) (.bool false) (.bool ahead) (.bool aheadS)).cell? ⟨we.heap.size + 1 + 1, 5, none⟩ = some (.bool false) := HZ.out.x8.cell 5
  have z6 : (stored8 wc (we.heap.size + 1 + 1) (.int .i64 n) (.string now) (.string was) (.string saved) (.int .u64 save) (.bool false) (.bool ahead) (.bool aheadS)).cell? ⟨we.heap.size + 1 + 1, 6, none⟩ = some (.bool ahead) := HZ.out.x8.cell 6
  have z7 : (stored8 wc (we.heap.size + 1 + 1) (.int .i64 n) (.string now) (.string was) (.string saved) (.int .u64 save) (.bool false) (.bool ahead) (.bool aheadS)).cell? ⟨we.heap.size + 1 + 1, 7, none⟩ = some (.bool aheadS) := HZ.out.x8.cell 7
  unfold stored8 at z0 z1 z2 z3 z4 z5 z6 z7
  go_wp2_with fail
  refine bodyPost_ret (v := .tuple #[.agg #[.int .i64 n, .string now, .string was, .string saved, .int .u64 save, .bool false, .bool ahead, .bool aheadS], .bool true]) (by simp [results, Tryz.results7, go_sem, z0, z1, z2, z3, z4, z5, z6, z7]) rfl ?_
  exact ⟨⟨A, (⟨n, now, was, saved, save, false, ahead, aheadS⟩ : OwnV), T, rfl, (by have := HZ.out.pi.room (F' := F + 400) (N' := N + 2) (by omega) (by omega); have e : setK os who (⟨n, now, was, saved, save, false, ahead, aheadS⟩ : OwnV) = os := (by rw [← HO.out]; exact setK_self os who); rw [e]; exact this), HZ.out.mv⟩⟩

end

end Go.Proofs.YtjemeopafkafgaaGreat
