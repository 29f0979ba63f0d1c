/-
  A transaction's changes of one slot, in a line: what it logged, where, and what it owes; plain data.
  A transaction in a line: Log, Rollback to the beginning and Abort of it.
  A transaction in a line goes back wholly.
  A transaction in a line goes back to a place, in any state; Save.
  The walk of (*txn.Manager).Top.
-/
import Derived.Test.YtjemeopafkafgaaGreatTxRollJ
import Derived.Test.YtjemeopafkafgaaGreatBackMathJ
import Derived.Test.YtjemeopafkafgaaGreatTxCompC
import Derived.Deep.RegionHeld3
namespace Go.Proofs.YtjemeopafkafgaaGreat
open Go.RowKit Go.Sort
set_option linter.unusedVariables false
set_option linter.unusedSimpArgs false

/-- A change of a slot: where its record stands, what it put there, what stood there. -/
structure UpV where
  pl : Nat
  S : ByteArray
  old : ByteArray

def plOf : List UpV → Nat
  | [] => 0
  | u :: _ => u.pl

def nowOf (v0 : ByteArray) : List UpV → ByteArray
  | [] => v0
  | u :: _ => u.S

def roomSum : List UpV → Nat
  | [] => 0
  | u :: us => roomSum us + (197 + u.S.size + u.old.size)

theorem room_len : ∀ L : List UpV, L.length * 197 ≤ roomSum L
  | [] => Nat.le_refl _
  | u :: us => by
    have := room_len us
    show (us.length + 1) * 197 ≤ roomSum us + _
    omega

/-- What is owed for them, the first one first. -/
def debtsOf : List UpV → List DbV
  | [] => []
  | u :: us => debtsOf us ++ [⟨u.pl, roomSum (u :: us)⟩]

def FallsL : List UpV → Prop
  | [] => True
  | u :: us => plOf us < u.pl ∧ FallsL us

theorem debts_length : ∀ L : List UpV, (debtsOf L).length = L.length
  | [] => rfl
  | u :: us => by simp [debtsOf, debts_length us]

theorem debts_mem : ∀ {L : List UpV}, FallsL L → ∀ q ∈ debtsOf L, q.lsn ≤ plOf L
  | [], _, q, h => by simp [debtsOf] at h
  | u :: us, hf, q, h => by
    simp only [debtsOf, List.mem_append, List.mem_singleton] at h
    rcases h with h | rfl
    · have := debts_mem hf.2 q h
      have := hf.1
      show q.lsn ≤ u.pl
      omega
    · exact Nat.le_refl _

theorem rises_snoc {D : List DbV} {e : DbV} (h : RisesD D) (he : ∀ q ∈ D, q.lsn < e.lsn) : RisesD (D ++ [e]) := by
  intro i j hj hij
  have hj' : j < D.length + 1 := by simpa using hj
  by_cases q : j < D.length
  · rw [List.getElem_append_left (by omega), List.getElem_append_left q]
    exact h i j q hij
  · have : j = D.length := by omega
    subst this
    rw [List.getElem_append_left hij]
    simp only [List.getElem_append_right (Nat.le_refl _), Nat.sub_self, List.getElem_cons_zero]
    exact he _ (List.getElem_mem _)

theorem debts_rise : ∀ {L : List UpV}, FallsL L → RisesD (debtsOf L)
  | [], _ => fun i j hj => absurd hj (Nat.not_lt_zero _)
  | u :: us, hf => rises_snoc (debts_rise hf.2) fun q hq => by
    have := debts_mem hf.2 q hq
    have := hf.1
    show q.lsn < u.pl
    omega

theorem stand_all {D : List DbV} {x : Nat} (h : ∀ q ∈ D, q.lsn ≤ x) : standN D x = D.length := by
  have := List.takeWhile_append_of_pos (l₁ := D) (l₂ := []) (p := fun q : DbV => decide (q.lsn ≤ x)) (fun q hq => by simpa using h q hq)
  unfold standN
  rw [List.append_nil] at this
  rw [this]
  simp

theorem stand_line {L : List UpV} (hf : FallsL L) {x : Nat} (hx : plOf L ≤ x) : standN (debtsOf L) x = L.length := by
  rw [stand_all (fun q hq => Nat.le_trans (debts_mem hf q hq) hx), debts_length]

theorem stand_tail {u : UpV} {us : List UpV} (hf : FallsL (u :: us)) : standN (debtsOf (u :: us)) (plOf us) = us.length := by
  unfold standN debtsOf
  have h1 : ∀ q ∈ debtsOf us, decide (q.lsn ≤ plOf us) = true := fun q hq => by simpa using debts_mem hf.2 q hq
  rw [List.takeWhile_append_of_pos h1]
  have h2 : decide (u.pl ≤ plOf us) = false := by have := hf.1; simpa using this
  simp [List.takeWhile, h2, debts_length]

theorem take_tail (u : UpV) (us : List UpV) : (debtsOf (u :: us)).take us.length = debtsOf us := by
  rw [← debts_length us]
  exact List.take_left

theorem take_all (L : List UpV) : (debtsOf L).take L.length = debtsOf L := by
  rw [← debts_length L]
  exact List.take_length

theorem owed_line : ∀ L : List UpV, owedN (debtsOf L) L.length = roomSum L
  | [] => rfl
  | u :: us => by
    unfold owedN
    rw [if_neg (by simp)]
    have : (debtsOf (u :: us))[(u :: us).length - 1]? = some ⟨u.pl, roomSum (u :: us)⟩ := by
      show (debtsOf us ++ [_])[us.length + 1 - 1]? = _
      rw [Nat.add_sub_cancel, ← debts_length us]
      simp
    rw [this]
    rfl

theorem owed_tail (u : UpV) (us : List UpV) : owedN (debtsOf (u :: us)) us.length = roomSum us := by
  rw [← owed_line us]
  unfold owedN
  by_cases e : us.length = 0
  · rw [if_pos e, if_pos e]
  · rw [if_neg e, if_neg e]
    have hl := debts_length us
    show (((debtsOf us ++ [_])[us.length - 1]?).map _).getD 0 = _
    rw [List.getElem?_append_left (by omega)]

/-- The change, and its record. -/
def setO (S old : ByteArray) : OpV := ⟨4, 0, S, old⟩
def setC (pg : Nat) (S old : ByteArray) : ChgV := ⟨pg, setO S old, 1, 0, ⟨#[]⟩, 0, 0, false⟩
def lineR (n pg prev : Nat) (u : UpV) : RecV := ⟨1, n, prev, 0, pg, setO u.S u.old, 1, 0, ⟨#[]⟩, 0, 0, false, [], []⟩

theorem setO_ok (S old : ByteArray) (h1 : S.size ≤ 512) (h2 : old.size ≤ 512) : (setO S old).Ok := ⟨⟨by show (-9223372036854775808 : Int) ≤ 4; decide, by show (4 : Int) ≤ _; decide⟩, ⟨by show (-9223372036854775808 : Int) ≤ 0; decide, by show (0 : Int) ≤ _; decide⟩, by show S.size ≤ _; omega, by show old.size ≤ _; omega⟩

theorem setO_chk (S old : ByteArray) (h1 : S.size ≤ 512) (h2 : old.size ≤ 512) : chkB (setO S old) = true := by
  unfold chkB
  rw [decide_eq_true (show (setO S old).S.size ≤ 512 from h1), decide_eq_true (show (setO S old).old.size ≤ 512 from h2)]
  rfl

theorem lineR_ok (n pg prev : Nat) (u : UpV) (hn : n ≤ 2147483647) (hp : pg ≤ 2048) (hv : prev < 18446744073709551616) (h1 : u.S.size ≤ 512) (h2 : u.old.size ≤ 512) (w : World) (ta da : Option Addr) (ht : TxsAt w ta []) (hd : DisAt w da []) : (lineR n pg prev u).Ok w ta da := by
  refine ⟨by simp [lineR], by simp only [lineR]; omega, hv, by simp [lineR], by show pg < _; omega, setO_ok _ _ h1 h2, by simp [lineR], by simp [lineR], (by show (0 : Nat) ≤ _; omega), by simp [lineR], by simp [lineR], by simp [lineR], by simp [lineR], ht, hd⟩

theorem sameR_self (r : RecV) : sameR r r = true := by unfold sameR; simp

theorem lineR_may (n pg prev : Nat) (u : UpV) (hn : n ≤ 2147483647) (hp : pg ≠ 0) (h1 : u.S.size ≤ 512) (h2 : u.old.size ≤ 512) : mayR (lineR n pg prev u) = true := by
  have e : namedV (lineR n pg prev u) = lineR n pg prev u := rfl
  have k1 : changeB (lineR n pg prev u) = true := rfl
  have k2 : keyB (lineR n pg prev u) = false := rfl
  have k3 : listsB (lineR n pg prev u) = false := rfl
  have k4 : cmayB (lineR n pg prev u) = true := by
    unfold cmayB
    rw [decide_eq_true (show (lineR n pg prev u).page ≠ 0 from hp), show chkB (lineR n pg prev u).op = true from setO_chk _ _ h1 h2]
    rfl
  unfold mayR
  rw [e, sameR_self, k1, k2, k3, k4, decide_eq_true (show 1 ≤ (lineR n pg prev u).kind ∧ (lineR n pg prev u).kind ≤ 8 from ⟨by show (1 : Int) ≤ 1; decide, by show (1 : Int) ≤ 8; decide⟩), decide_eq_true (show 0 ≤ (lineR n pg prev u).tx ∧ (lineR n pg prev u).tx ≤ 2147483647 from by simp only [lineR]; omega)]
  rfl

theorem text_len (s : ByteArray) (h : s.size ≤ 65535) : (textB s).length = 2 + s.size := by
  unfold textB
  rw [if_pos h, List.length_append, putL_length, Array.length_toList]
  rfl

theorem lineR_len (n pg prev : Nat) (u : UpV) (h1 : u.S.size ≤ 512) (h2 : u.old.size ≤ 512) : (encR (lineR n pg prev u)).length = 25 + u.S.size + u.old.size := by
  have k1 : changeB (lineR n pg prev u) = true := rfl
  have k2 : keyB (lineR n pg prev u) = false := rfl
  have k3 : listsB (lineR n pg prev u) = false := rfl
  have k4 : nextB (lineR n pg prev u) = false := rfl
  unfold encR changeL
  rw [k1, k2, k3, k4]
  simp only [List.length_append, putL_length, Bool.false_eq_true, if_false, if_true, List.length_nil]
  rw [show (lineR n pg prev u).op.S = u.S from rfl, show (lineR n pg prev u).op.old = u.old from rfl, text_len _ (by omega), text_len _ (by omega)]
  omega

theorem lineR_eq (t : MtV) (n pg : Nat) (u : UpV) (hn : t.tx = n) : recU t (setC pg u.S u.old) = lineR n pg t.last u := by rw [← hn]; rfl

/-- The compensation's record. -/
theorem recC_ok (t : MtV) (n pg : Nat) (u : UpV) (next : Nat) (hn : n ≤ 2147483647) (hp : pg ≤ 2048) (hl : t.last < 18446744073709551616) (hx : next < 18446744073709551616) (h1 : u.S.size ≤ 512) (h2 : u.old.size ≤ 512) (w : World) : (recC t n pg (setO u.old u.S) next).Ok w none none := by
  refine ⟨by simp [recC], by simp only [recC]; omega, hl, hx, by show pg < _; omega, setO_ok _ _ h2 h1, by simp [recC], by simp [recC], (by show (0 : Nat) ≤ _; omega), by simp [recC], by simp [recC], by simp [recC], by simp [recC], .inl rfl, .inl rfl⟩

theorem recC_may (t : MtV) (n pg : Nat) (u : UpV) (next : Nat) (hn : n ≤ 2147483647) (hp : pg ≠ 0) (h1 : u.S.size ≤ 512) (h2 : u.old.size ≤ 512) : mayR (recC t n pg (setO u.old u.S) next) = true := by
  have e : namedV (recC t n pg (setO u.old u.S) next) = recC t n pg (setO u.old u.S) next := rfl
  have k1 : changeB (recC t n pg (setO u.old u.S) next) = true := rfl
  have k2 : keyB (recC t n pg (setO u.old u.S) next) = false := rfl
  have k3 : listsB (recC t n pg (setO u.old u.S) next) = false := rfl
  have k4 : cmayB (recC t n pg (setO u.old u.S) next) = true := by
    unfold cmayB
    rw [decide_eq_true (show (recC t n pg (setO u.old u.S) next).page ≠ 0 from hp), show chkB (recC t n pg (setO u.old u.S) next).op = true from setO_chk _ _ h2 h1]
    rfl
  unfold mayR
  rw [e, sameR_self, k1, k2, k3, k4, decide_eq_true (show 1 ≤ (recC t n pg (setO u.old u.S) next).kind ∧ (recC t n pg (setO u.old u.S) next).kind ≤ 8 from ⟨by show (1 : Int) ≤ 2; decide, by show (2 : Int) ≤ 8; decide⟩), decide_eq_true (show 0 ≤ (recC t n pg (setO u.old u.S) next).tx ∧ (recC t n pg (setO u.old u.S) next).tx ≤ 2147483647 from by simp only [recC]; omega)]
  rfl

theorem recC_len (t : MtV) (n : Int) (pg : Nat) (u : UpV) (next : Nat) (h1 : u.S.size ≤ 512) (h2 : u.old.size ≤ 512) : (encR (recC t n pg (setO u.old u.S) next)).length = 33 + u.S.size + u.old.size := by
  have k1 : changeB (recC t n pg (setO u.old u.S) next) = true := rfl
  have k2 : keyB (recC t n pg (setO u.old u.S) next) = false := rfl
  have k3 : listsB (recC t n pg (setO u.old u.S) next) = false := rfl
  have k4 : nextB (recC t n pg (setO u.old u.S) next) = true := rfl
  unfold encR changeL
  rw [k1, k2, k3, k4]
  simp only [List.length_append, putL_length, Bool.false_eq_true, if_false, if_true, List.length_nil]
  rw [show (recC t n pg (setO u.old u.S) next).op.S = u.old from rfl, show (recC t n pg (setO u.old u.S) next).op.old = u.S from rfl, text_len _ (by omega), text_len _ (by omega)]
  omega

theorem compS_size (t : MtV) (n : Int) (pg : Nat) (u : UpV) (next : Nat) (h1 : u.S.size ≤ 512) (h2 : u.old.size ≤ 512) : (compS t n pg (setO u.old u.S) next).size = 33 + u.S.size + u.old.size := by
  show (encR _).toArray.size = _
  rw [List.size_toArray]
  exact recC_len t n pg u next h1 h2

theorem logS_size (t : MtV) (pg : Nat) (S old : ByteArray) (h1 : S.size ≤ 512) (h2 : old.size ≤ 512) : (logS t (setC pg S old)).size = 25 + S.size + old.size := by
  show (encR _).toArray.size = _
  rw [List.size_toArray]
  have := lineR_len t.tx pg t.last ⟨0, S, old⟩ h1 h2
  rw [← lineR_eq t t.tx pg ⟨0, S, old⟩ rfl] at this
  exact this

/-- The records of such a line stand in the log. -/
def LineAt (rs : List ByteArray) (n pg : Nat) (v0 : ByteArray) : List UpV → Prop
  | [] => True
  | u :: us => (∃ i, i < rs.length ∧ placeOf rs i = u.pl ∧ rs.getD i ⟨#[]⟩ = ⟨(encR (lineR n pg (plOf us) u)).toArray⟩) ∧ u.S.size ≤ 400 ∧ u.old = nowOf v0 us ∧ LineAt rs n pg v0 us

theorem LineAt.snoc {rs : List ByteArray} {n pg : Nat} {v0 : ByteArray} (r : ByteArray) : ∀ {L : List UpV}, LineAt rs n pg v0 L → LineAt (rs ++ [r]) n pg v0 L
  | [], _ => trivial
  | u :: us, ⟨⟨i, h1, h2, h3⟩, h4, h5, h6⟩ => ⟨⟨i, by simp; omega, by rw [placeOf_snoc rs r i (by omega)]; exact h2, by rw [← h3, List.getD_eq_getElem?_getD, List.getD_eq_getElem?_getD, List.getElem?_append_left h1]⟩, h4, h5, h6.snoc r⟩

theorem LineAt.now {rs : List ByteArray} {n pg : Nat} {v0 : ByteArray} (h0 : v0.size ≤ 400) : ∀ {L : List UpV}, LineAt rs n pg v0 L → (nowOf v0 L).size ≤ 400
  | [], _ => h0
  | u :: us, h => h.2.1

/-- A transaction in a line: K0 is what others keep. -/
structure TxLine (l : LG) (rs : List ByteArray) (t : MtV) (n pg : Nat) (v0 : ByteArray) (L : List UpV) (K0 : Nat) : Prop where
  recs : RecsAt l rs
  line : LineAt rs n pg v0 L
  falls : FallsL L
  next : t.next = plOf L
  tx : t.tx = n
  debts : t.debts = debtsOf L
  kept : roomSum L + 25 ≤ t.kept
  keq : l.kept = K0 + t.kept
  bytes : l.bytes.length + l.kept ≤ 4194304
  last : t.last ≤ l.bytes.length
  plt : plOf L ≤ l.bytes.length
  begun : t.begun = true
  v0s : v0.size ≤ 400

theorem putG_len (l : LG) (s : ByteArray) : (putG l s).bytes.length = l.bytes.length + (s.size + 12) := by
  show (l.bytes ++ frameL _ _).length = _
  rw [List.length_append, frameL_length, Array.length_toList]
  show l.bytes.length + (s.size + 12) = _
  rfl

theorem RecsAt.count {l : LG} {rs : List ByteArray} (h : RecsAt l rs) : rs.length * 12 ≤ l.bytes.length := by
  have h1 := h.long
  have h2 := placeOf_mono rs (Nat.zero_le rs.length)
  have h3 : placeOf rs 0 = 1 := rfl
  omega

section
variable {l : LG} {rs : List ByteArray} {t : MtV} {n pg : Nat} {v0 : ByteArray} {L us : List UpV} {u : UpV} {K0 : Nat}

/-- spend, where what is kept is enough. -/
theorem spend_eqs (l : LG) (t : MtV) (s : ByteArray) (left : Nat) (h : s.size + 12 + left ≤ t.kept) : spendL l t s left = { putG l s with kept := l.kept - (s.size + 12) } ∧ spendT l t s left = { t with kept := t.kept - (s.size + 12), last := l.bytes.length + 1 } := by
  unfold spendL spendT coverL coverT
  rw [show s.size + 12 + left - t.kept = 0 by omega]
  exact ⟨rfl, rfl⟩

theorem TxLine.log (h : TxLine l rs t n pg v0 L K0) (hl : t.last = plOf L) (S : ByteArray) (hS : S.size ≤ 400) (hroom : l.bytes.length + l.kept + (234 + S.size + (nowOf v0 L).size + (S.size + (nowOf v0 L).size)) ≤ 4194304) :
    TxLine (putG { l with kept := l.kept + ((logS t (setC pg S (nowOf v0 L))).size + 172) } (logS t (setC pg S (nowOf v0 L)))) (rs ++ [logS t (setC pg S (nowOf v0 L))]) (logT t (setC pg S (nowOf v0 L)) (l.bytes.length + 1)) n pg v0 (⟨l.bytes.length + 1, S, nowOf v0 L⟩ :: L) K0 := by
  have hn := h.line.now h.v0s
  have sz := logS_size t pg S (nowOf v0 L) (by omega) (by omega)
  have hR : RecsAt { l with kept := l.kept + ((logS t (setC pg S (nowOf v0 L))).size + 172) } rs := ⟨h.recs.starts, h.recs.long, h.recs.text⟩
  have hlen := putG_len { l with kept := l.kept + ((logS t (setC pg S (nowOf v0 L))).size + 172) } (logS t (setC pg S (nowOf v0 L)))
  have hlen' : (putG { l with kept := l.kept + ((logS t (setC pg S (nowOf v0 L))).size + 172) } (logS t (setC pg S (nowOf v0 L)))).bytes.length = l.bytes.length + ((logS t (setC pg S (nowOf v0 L))).size + 12) := hlen
  have hst : standN t.debts (l.bytes.length + 1) = L.length := by rw [h.debts]; exact stand_line h.falls (by have := h.plt; omega)
  refine ⟨hR.snoc _, ⟨⟨rs.length, by simp, ?_, ?_⟩, hS, rfl, h.line.snoc _⟩, ⟨?_, h.falls⟩, rfl, h.tx, ?_, ?_, ?_, ?_, ?_, ?_, h.begun, h.v0s⟩
  · rw [placeOf_snoc rs _ _ (Nat.le_refl _)]; exact h.recs.long.symm
  · rw [getD_last]
    show ByteArray.mk (encR (recU t _)).toArray = _
    rw [lineR_eq t n pg ⟨l.bytes.length + 1, S, nowOf v0 L⟩ h.tx, hl]
  · have := h.plt; show plOf L < l.bytes.length + 1; omega
  · show t.debts ++ [_] = _
    rw [hst, h.debts, owed_line]
    show _ = debtsOf L ++ [_]
    rw [sz]
    show debtsOf L ++ [DbV.mk _ _] = debtsOf L ++ [DbV.mk _ (roomSum L + (197 + S.size + (nowOf v0 L).size))]
    rw [show roomSum L + (25 + S.size + (nowOf v0 L).size + 172) = roomSum L + (197 + S.size + (nowOf v0 L).size) by omega]
  · have := h.kept
    show roomSum L + (197 + S.size + (nowOf v0 L).size) + 25 ≤ t.kept + ((logS t (setC pg S (nowOf v0 L))).size + 172)
    rw [sz]; omega
  · have := h.keq
    show l.kept + _ = K0 + (t.kept + _)
    omega
  · rw [hlen']
    show _ + (l.kept + _) ≤ _
    rw [sz]; omega
  · rw [hlen']; show l.bytes.length + 1 ≤ _; omega
  · rw [hlen']; show l.bytes.length + 1 ≤ _; omega

/-- A record of nothing but its kind is put out of what is kept. -/
theorem TxLine.spent (h : TxLine l rs t n pg v0 L K0) (s : ByteArray) (hk : roomSum L + 25 + (s.size + 12) ≤ t.kept) {t' : MtV} (ht : t' = { t with kept := t.kept - (s.size + 12), last := l.bytes.length + 1, state := t'.state }) :
    TxLine { putG l s with kept := l.kept - (s.size + 12) } (rs ++ [s]) t' n pg v0 L K0 := by
  have hR : RecsAt { putG l s with kept := l.kept - (s.size + 12) } (rs ++ [s]) := ⟨(h.recs.snoc s).starts, (h.recs.snoc s).long, (h.recs.snoc s).text⟩
  have hlen : ({ putG l s with kept := l.kept - (s.size + 12) } : LG).bytes.length = l.bytes.length + (s.size + 12) := putG_len l s
  have hb := h.bytes
  have hq := h.keq
  refine ⟨hR, h.line.snoc _, h.falls, ?_, ?_, ?_, ?_, ?_, ?_, ?_, ?_, ?_, h.v0s⟩
  · rw [ht]; exact h.next
  · rw [ht]; exact h.tx
  · rw [ht]; exact h.debts
  · rw [ht]; show _ ≤ t.kept - _; omega
  · rw [ht]; show l.kept - _ = K0 + (t.kept - _); omega
  · rw [hlen]; show _ + (l.kept - _) ≤ _; omega
  · rw [hlen, ht]; show l.bytes.length + 1 ≤ _; omega
  · rw [hlen]; have := h.plt; omega
  · rw [ht]; exact h.begun

/-- The last change is taken back. -/
theorem TxLine.comp (h : TxLine l rs t n pg v0 (u :: us) K0) (s : ByteArray) (hs : s.size = 33 + u.S.size + u.old.size) {t' : MtV} (ht : t' = { t with kept := t.kept - (s.size + 12), last := l.bytes.length + 1, next := plOf us, debts := debtsOf us }) :
    TxLine { putG l s with kept := l.kept - (s.size + 12) } (rs ++ [s]) t' n pg v0 us K0 := by
  have hR : RecsAt { putG l s with kept := l.kept - (s.size + 12) } (rs ++ [s]) := ⟨(h.recs.snoc s).starts, (h.recs.snoc s).long, (h.recs.snoc s).text⟩
  have hlen : ({ putG l s with kept := l.kept - (s.size + 12) } : LG).bytes.length = l.bytes.length + (s.size + 12) := putG_len l s
  have hb := h.bytes
  have hq := h.keq
  have hk : roomSum us + (197 + u.S.size + u.old.size) + 25 ≤ t.kept := h.kept
  have hf := h.falls
  have hp := h.plt
  refine ⟨hR, h.line.2.2.2.snoc _, hf.2, ?_, ?_, ?_, ?_, ?_, ?_, ?_, ?_, ?_, h.v0s⟩
  · rw [ht]
  · rw [ht]; exact h.tx
  · rw [ht]
  · rw [ht]; show _ ≤ t.kept - _; omega
  · rw [ht]; show l.kept - _ = K0 + (t.kept - _); omega
  · rw [hlen]; show _ + (l.kept - _) ≤ _; omega
  · rw [hlen, ht]; show l.bytes.length + 1 ≤ _; omega
  · rw [hlen]; have h1 : plOf us < u.pl := hf.1; have h2 : u.pl ≤ l.bytes.length := hp; omega
  · rw [ht]; exact h.begun

end

end Go.Proofs.YtjemeopafkafgaaGreat

namespace Go.Proofs.YtjemeopafkafgaaGreat
open Go.RowKit Go.Sort
set_option linter.unusedVariables false
set_option linter.unusedSimpArgs false

/-- A pool that is another one but for the page pg, of one slot, v. -/
structure PgTo (P0 P : PG) (pg : Nat) (v : ByteArray) : Prop where
  slot : ∃ f, P.F pg = some f ∧ f.sh.Fits ∧ f.sh.num = pg ∧ f.sh.slots = [v] ∧ f.sh.head.size = 0
  oth : ∀ k, k ≠ pg → P.F k = P0.F k
  z : P.z = P0.z
  lp : P.lp = P0.lp
  dp : P.dp = P0.dp
  most : P.most = P0.most
  picks : P.picks = P0.picks

theorem set_does {q : SheetV} {v S : ByteArray} (hf : q.Fits) (hs : q.slots = [v]) (hh : q.head.size = 0) (hv : v.size ≤ 400) (hS : S.size ≤ 400) : ChangeDoes q (setO S v) 0 { q with slots := [S] } := by
  have := change_set (p := q) (o := setO S v) hf (setO_ok S v (by omega) (by omega)) rfl (by show (0 : Int) ≤ 0; decide)
  have e : setE q (setO S v) = 0 := by
    have e0 : standE q (setO S v) = 0 := by
      unfold standE
      rw [hs, if_neg (show ¬ ((([v] : List ByteArray).length : Int) ≤ (setO S v).at') by show ¬ ((1 : Int) ≤ 0); decide), if_neg (show ¬ ([v].getD (setO S v).at'.toNat ByteArray.empty ≠ (setO S v).old) by intro h; exact h rfl)]
    unfold setE
    rw [e0, if_neg (by simp), if_neg]
    rw [hs]
    show ¬ (485 + v.size < q.head.size + (2 + v.size + 0) + S.size)
    omega
  rw [e, hs] at this
  exact this

theorem set_fits {q : SheetV} {S : ByteArray} {lsn : Nat} (hf : q.Fits) (hh : q.head.size = 0) (hS : S.size ≤ 400) (hl : lsn < 18446744073709551616) : ({ ({ q with slots := [S] } : SheetV) with lsn := lsn } : SheetV).Fits :=
  ⟨hf.num, hl, hf.kind0, hf.kind1, hf.head, by show [S].length ≤ _; simp, by show q.head.size + (2 + S.size + 0) ≤ 485; omega⟩

theorem PgTo.put {P0 P : PG} {pg : Nat} {v S : ByteArray} (h : PgTo P0 P pg v) {f : FrV} (hf : P.F pg = some f) (hfit : f.sh.Fits) (hnum : f.sh.num = pg) (hh : f.sh.head.size = 0) {lsn : Nat} (hl : lsn < 18446744073709551616) (hS : S.size ≤ 400) : PgTo P0 (putP P { ({ f.sh with slots := [S] } : SheetV) with lsn := lsn }) pg S := by
  have hX : ({ ({ f.sh with slots := [S] } : SheetV) with lsn := lsn } : SheetV).num = pg := hnum
  refine ⟨⟨⟨{ ({ f.sh with slots := [S] } : SheetV) with lsn := lsn }, sinceF (oldS P f.sh.num) lsn⟩, ?_, set_fits hfit hh hS hl, hnum, rfl, hh⟩, fun k hk => ?_, ?_, h.lp, h.dp, h.most, h.picks⟩
  · show setFr P.F f.sh.num _ pg = _
    rw [hnum]
    simp [setFr]
  · show setFr P.F f.sh.num _ k = _
    rw [hnum]
    simp only [setFr, if_neg hk]
    exact h.oth k hk
  · show (if (P.F f.sh.num).isSome = true then P.z else _) = _
    rw [hnum, hf]
    exact h.z

section
variable {w : World} {m p : Nat} {X : Int → Nat} {A : Nat → Prop} {P0 P : PG} {l : LG} {d : DG} {M : MgG} {rs : List ByteArray} {t : MtV} {n pg : Nat} {v0 : ByteArray} {L us : List UpV} {u : UpV} {K0 : Nat}

/-- What Log leaves. -/
structure LineLog (w w' : World) (m p : Nat) (X : Int → Nat) (A : Nat → Prop) (P0 : PG) (d : DG) (M : MgG) (l : LG) (t : MtV) (n pg : Nat) (v0 : ByteArray) (L : List UpV) (K0 : Nat) (S : ByteArray) : Prop where
  ex : ∃ A' P' l' rs' t', MSys w' m p X A' P' l' d (M.set n t') ∧ Moves A A' w w' ∧ TxLine l' rs' t' n pg v0 (⟨l.bytes.length + 1, S, nowOf v0 L⟩ :: L) K0 ∧ t'.state = 1 ∧ t'.last = l.bytes.length + 1 ∧ t'.kept = t.kept + (197 + S.size + (nowOf v0 L).size) ∧ l'.bytes.length = l.bytes.length + (37 + S.size + (nowOf v0 L).size) ∧ PgTo P0 P' pg S

theorem line_log (h : MSys w m p X A P l d M) (ht : M.T n = some t) (hL : TxLine l rs t n pg v0 L K0) (hst : t.state = 1) (hla : t.last = plOf L) (hP : PgTo P0 P pg (nowOf v0 L)) (hz : P0.z ≤ 1000000) (hn : n ≤ 2147483647) (h1 : 1 ≤ pg) (h2 : pg ≤ 2048) (S : ByteArray) (hS : S.size ≤ 400) (hroom : l.bytes.length + l.kept + (234 + S.size + (nowOf v0 L).size + (S.size + (nowOf v0 L).size)) ≤ 4194304) :
    Calls Tryz.prog 14 #[.pointer (some ⟨m, 0, none⟩), .int .i64 n, .agg (setC pg S (nowOf v0 L)).cells] w fun e w' => e = .returned (.tuple #[.int .u64 ((l.bytes.length + 1 : Nat) : Int), .int .i64 0]) ∧ LineLog w w' m p X A P0 d M l t n pg v0 L K0 S := by
  have hn0 := hL.line.now hL.v0s
  have sz := logS_size t pg S (nowOf v0 L) (by omega) (by omega)
  obtain ⟨f, hf, hfit, hnum, hsl, hh⟩ := hP.slot
  have hb := hL.bytes
  have hq := hL.keq
  have hlast := hL.last
  have hcnt := hL.recs.count
  have hst' := hL.recs.len
  have e1 : standN t.debts (l.bytes.length + 1) = L.length := by rw [hL.debts]; exact stand_line hL.falls (by have := hL.plt; omega)
  have hrec := lineR_eq t n pg ⟨0, S, nowOf v0 L⟩ hL.tx
  refine (tlog_ok h n (by omega) (by omega) ht hst (setC pg S (nowOf v0 L)) (fun wx => ?_) ?_ (by show (1 : Int) ≠ 0; decide) (by rw [sz]; omega) h1 h2 hf hfit (setO_ok _ _ (by omega) (by omega)) (setO_chk _ _ (by omega) (by omega)) (set_does hfit hsl hh hn0 hS) (set_fits hfit hh hS (by omega)) hnum (by show [S] ≠ []; simp) (by rw [hP.z]; exact hz) (by omega) (by rw [sz]; omega) (by omega) (by rw [hL.debts]; exact debts_rise hL.falls) (by rw [hL.debts, debts_length]; have := room_len L; have := hL.kept; omega) (by rw [e1, hL.debts, owed_line]; have := hL.kept; omega)).mono ?_
  · rw [hrec]; exact lineR_ok n pg t.last _ hn h2 (by omega) (by show S.size ≤ _; omega) (by show (nowOf v0 L).size ≤ _; omega) wx none none (.inl rfl) (.inl rfl)
  · rw [hrec]; exact lineR_may n pg t.last _ hn (by omega) (by show S.size ≤ _; omega) (by show (nowOf v0 L).size ≤ _; omega)
  · rintro e w' ⟨rfl, A', g, mv⟩
    refine ⟨rfl, ⟨A', _, _, _, _, g, mv, hL.log hla S hS hroom, hst, rfl, ?_, ?_, hP.put hf hfit hnum hh (by omega) hS⟩⟩
    · show t.kept + ((logS t (setC pg S (nowOf v0 L))).size + 172) = _
      rw [sz]; omega
    · rw [putG_len, sz]; show l.bytes.length + _ = _; omega

/-- Where a transaction in a line stands, when it goes back. -/
structure LineS (w0 wx : World) (m p : Nat) (X : Int → Nat) (A0 : Nat → Prop) (P0 : PG) (d : DG) (M0 : MgG) (n pg : Nat) (v0 : ByteArray) (K0 : Nat) (L : List UpV) : Prop where
  ex : ∃ A P l rs t, MSys wx m p X A P l d (M0.set n t) ∧ TxLine l rs t n pg v0 L K0 ∧ t.state = 3 ∧ PgTo P0 P pg (nowOf v0 L) ∧ Moves A0 A w0 wx

set_option maxRecDepth 20000 in
theorem line_step {w0 wx : World} {A0 : Nat → Prop} {M0 : MgG} (mb : Nat) (hmb : w0.cell? ⟨mb, 0, none⟩ = some (.pointer (some ⟨m, 0, none⟩))) (hnA : ¬ A0 mb) (h : LineS w0 wx m p X A0 P0 d M0 n pg v0 K0 (u :: us)) (hz : P0.z ≤ 1000000) (hn : n ≤ 2147483647) (h1 : 1 ≤ pg) (h2 : pg ≤ 2048) :
    Calls Tryz.prog 17 #[.pointer (some ⟨m, 0, none⟩), .int .i64 n] wx (RollNx m n 0 75 (.pointer (some ⟨mb, 0, none⟩)) fun w' => LineS w0 w' m p X A0 P0 d M0 n pg v0 K0 us) := by
  obtain ⟨A, P, l, rs, t, hM, hL, hst, hP, mv⟩ := h.ex
  obtain ⟨⟨i, hi, hpl, hrb⟩, hS, hold, hus⟩ := hL.line
  have ht := MgG.set_get M0 n t
  have hol : u.old.size ≤ 400 := by rw [hold]; exact hus.now hL.v0s
  have hb := hL.bytes
  have hq := hL.keq
  have hk : roomSum us + (197 + u.S.size + u.old.size) + 25 ≤ t.kept := hL.kept
  have hlast := hL.last
  have hcnt := hL.recs.count
  have hst' := hL.recs.len
  have hf' := hL.falls
  have hup : plOf us < u.pl := hf'.1
  have hul : u.pl ≤ l.bytes.length := hL.plt
  have hnx : t.next = u.pl := hL.next
  have hdl : t.debts.length ≤ 1000000 := by rw [hL.debts, debts_length]; have h5 := room_len (u :: us); have h6 := hL.kept; omega
  have hrise : RisesD t.debts := by rw [hL.debts]; exact debts_rise hf'
  have hml : mb < w0.heap.size := World.block_lt_of_cell? _ _ hmb
  have hmx := mv.off hml hnA
  have hmbx : wx.cell? ⟨mb, 0, none⟩ = some (.pointer (some ⟨m, 0, none⟩)) := (World.cell?_of_block (w := w0) (a := ⟨mb, 0, none⟩) hmx.1).trans hmb
  obtain ⟨r, Hr⟩ : ∃ r, Hid (lineR n pg (plOf us) u = r) := ⟨_, rfl⟩
  have hread : ∀ wy, Below wx.heap.size wx wy → Calls Tryz.prog 63 #[.pointer (some ⟨m, 0, none⟩), .int .i64 n, .int .u64 t.next] wy fun e w' => ∃ ta da tc dc, e = .returned (.tuple #[.agg (r.cells ta da tc dc), .int .i64 0]) ∧ Below wy.heap.size wy w' := fun wy by' => by
    refine read_ok (hM.below by') n t.next (placeOf rs (i + 1)) (rs.getD i ⟨#[]⟩) (fun wz bz => ?_) r (fun wz => ?_) ?_
    · obtain ⟨Lg, hLg, _, _⟩ := ((hM.below by').below bz).log
      have := get_recs hLg hL.recs (by omega) (by omega) i hi
      rw [hpl, ← hnx] at this
      refine this.mono ?_
      rintro e w' ⟨rfl, q, rfl⟩
      exact ⟨rfl, below_drewN (Below.refl _ _) q⟩
    · rw [hrb, ← Hr.out]
      exact dec_rec _ wz (lineR_may n pg _ u hn (by omega) (by omega) (by omega)) ⟨fun i hi => by simp [lineR] at hi, fun i hi => by simp [lineR] at hi⟩ (by show plOf us < _; omega) (by show (0 : Nat) < _; omega) (by show pg < _; omega) (by show (0 : Nat) < _; omega) (by rw [lineR_len n pg _ u (by omega) (by omega)]; omega) (fun wq ta da a b => lineR_ok n pg _ u hn h2 (by omega) (by omega) (by omega) wq ta da a b)
    · rw [← Hr.out]; rfl
  have hstand : t.debts.take (standN t.debts t.next) = t.debts := by
    have e0 : standN (debtsOf (u :: us)) u.pl = (u :: us).length := stand_line hf' (Nat.le_refl _)
    rw [hL.debts, hnx, e0, take_all]
  have htt : ({ t with debts := t.debts.take (standN t.debts t.next) } : MtV) = t := by rw [hstand]
  have hkd : r.kind = 1 := by rw [← Hr.out]; rfl
  have hun : r.undo ≠ 0 := by rw [← Hr.out]; show (1 : Int) ≠ 0; decide
  have hNX := next_undo hM n (by omega) (by omega) ht (by omega) hrise hdl r hkd hun hread
  rw [htt, MgG.set_set] at hNX
  refine hNX.mono ?_
  rintro e w1 ⟨⟨ta, da, tc, dc, rfl⟩, A1, g1, mv1⟩
  refine ⟨⟨r, ta, da, tc, dc, t.next, rfl, by omega, ⟨fun wy hwy => ?_⟩⟩⟩
  have by1 : Below w1.heap.size w1 wy := by rw [hwy]; exact (Below.refl _ _).alloc (Nat.le_refl _) _
  have xy : BlkR wy w1.heap.size (r.cells ta da tc dc) 56 := by rw [hwy]; exact Blk.made _ _ _
  have gy := g1.below by1
  have hm1 := (mv.trans mv1).off hml hnA
  have hmb1 : ∀ wz, Below w1.heap.size w1 wz → wz.cell? ⟨mb, 0, none⟩ = some (.pointer (some ⟨m, 0, none⟩)) := fun wz bz => by
    have hlt : mb < w1.heap.size := Nat.lt_of_lt_of_le hml (mv.trans mv1).1.size
    exact (World.cell?_of_block (w := w0) (a := ⟨mb, 0, none⟩) ((bz.block _ hlt).trans hm1.1)).trans hmb
  obtain ⟨f, hfF, hfit, hnum, hsl, hh⟩ := hP.slot
  have hop : invO r.op = setO u.old u.S := by rw [← Hr.out]; rfl
  have hpg : r.page = pg := by rw [← Hr.out]; rfl
  have hpv : r.prev = plOf us := by rw [← Hr.out]; rfl
  have hro : r.op.Ok := by rw [← Hr.out]; exact setO_ok _ _ (by omega) (by omega)
  have csz := compS_size t n pg u (plOf us) (by omega) (by omega)
  have est : standN t.debts (plOf us) = us.length := by rw [hL.debts]; exact stand_tail hf'
  have eow : owedN t.debts (standN t.debts (plOf us)) = roomSum us := by rw [est, hL.debts]; exact owed_tail u us
  have ecn : compN t (plOf us) = roomSum us + 25 := by
    unfold compN wayN
    rw [hL.begun, if_pos rfl, if_neg (by rw [hst]; decide), eow]
  have esp := spend_eqs l t (compS t n pg (setO u.old u.S) (plOf us)) (compN t (plOf us)) (by rw [csz, ecn]; omega)
  have hcomp : ∀ wz, Below w1.heap.size w1 wz → Calls Tryz.prog 76 #[.pointer (some ⟨m, 0, none⟩), .int .i64 n, .int .u32 r.page, (invO r.op).val, .int .u64 r.prev] wz fun e w' => e = .returned (.tuple #[.int .u64 ((l.bytes.length + 1 : Nat) : Int), .int .i64 0]) ∧ ∃ A', MSys w' m p X A' (putP P { ({ f.sh with slots := [u.old] } : SheetV) with lsn := l.bytes.length + 1 }) (spendL l t (compS t n pg (setO u.old u.S) (plOf us)) (compN t (plOf us))) d (M0.set n (compT l t (compS t n pg (setO u.old u.S) (plOf us)) (plOf us))) ∧ Moves A1 A' wz w' := fun wz bz => by
    rw [hop, hpg, hpv]
    have hdo : ChangeDoes f.sh (setO u.old u.S) 0 { f.sh with slots := [u.old] } := set_does hfit (by rw [hsl]; rfl) hh hS hol
    have := comp_ok (g1.below bz) n (by omega) (by omega) (MgG.set_get M0 n t) pg (setO u.old u.S) (plOf us) (fun wq => recC_ok t n pg u (plOf us) hn h2 (by omega) (by omega) (by omega) (by omega) wq) (recC_may t n pg u (plOf us) hn (by omega) (by omega) (by omega)) (by rw [csz]; omega) h1 h2 hfF hfit (setO_ok _ _ (by omega) (by omega)) (setO_chk _ _ (by omega) (by omega)) hdo (set_fits hfit hh hol (by omega)) hnum (by show [u.old] ≠ []; simp) (by rw [hP.z]; exact hz) (by omega) hrise hdl (by rw [est, hL.debts, debts_length]; right; show us.length < us.length + 1; omega) (by rw [eow]; omega) (by omega) (by rw [csz]; omega) (by rw [csz, ecn]; omega) (.inl (by rw [csz, ecn]; omega))
    rw [MgG.set_set] at this
    exact this
  have hask := ask_any gy n r ta da tc dc 75 (.pointer (some ⟨mb, 0, none⟩)) (putP P { ({ f.sh with slots := [u.old] } : SheetV) with lsn := l.bytes.length + 1 }) (spendL l t (compS t n pg (setO u.old u.S) (plOf us)) (compN t (plOf us))) (M0.set n (compT l t (compS t n pg (setO u.old u.S) (plOf us)) (plOf us))) (fun wz => rfl) (fun wz bz => by
    have bz1 := below_chain by1 bz
    exact back1_any (g1.below bz1) mb (hmb1 wz bz1) hm1.2 n r ta da tc dc (l.bytes.length + 1) _ _ _ (fun wq => inverse_any r.op wq hro) (fun wq bq => hcomp wq (below_chain bz1 bq)))
  refine hask.mono ?_
  rintro e w2 ⟨rfl, A2, g2, mv2⟩
  have hbox : ¬ A1 w1.heap.size := fun x => by have := g1.lt _ x; omega
  refine ⟨rfl, xy.same (mv2.off xy.lt hbox).1, ?_⟩
  have htn : (compT l t (compS t n pg (setO u.old u.S) (plOf us)) (plOf us)).next = plOf us := rfl
  have hPS := pass_other g2 n (by omega) (by omega) (MgG.set_get M0 n _) t.next r.prev (by rw [htn]; omega)
  refine hidx (hPS.mono ?_)
  rintro e w3 ⟨rfl, rfl⟩
  refine ⟨rfl, ⟨A2, _, _, rs ++ [compS t n pg (setO u.old u.S) (plOf us)], _, g2, ?_, hst, ?_, (mv.trans mv1).trans ((Moves.of_kept (Kept.of_below by1)).trans mv2)⟩⟩
  · rw [esp.1]
    refine hL.comp _ csz ?_
    unfold compT
    rw [esp.2, est, hL.debts, take_tail]
  · have : nowOf v0 us = u.old := hold.symm
    rw [this]
    exact hP.put hfF hfit hnum hh (by omega) hol

theorem line_end {w0 wx : World} {A0 : Nat → Prop} {M0 : MgG} (h : LineS w0 wx m p X A0 P0 d M0 n pg v0 K0 []) (hn : n ≤ 2147483647) :
    Calls Tryz.prog 17 #[.pointer (some ⟨m, 0, none⟩), .int .i64 n] wx (RollEnd 0 fun w' => LineS w0 w' m p X A0 P0 d M0 n pg v0 K0 []) := by
  obtain ⟨A, P, l, rs, t, hM, hL, hst, hP, mv⟩ := h.ex
  have hd : t.debts = [] := hL.debts
  have hx : t.next = 0 := hL.next
  have htt : ({ t with next := 0, debts := t.debts.take (standN t.debts 0) } : MtV) = t := by
    rw [hd, ← hx]
    show ({ t with next := t.next, debts := [] } : MtV) = t
    rw [← hd]
  have hNX := next_none hM n (by omega) (by omega) (MgG.set_get M0 n t) hx (by rw [hd]; exact fun i j hj => absurd hj (Nat.not_lt_zero _)) (by rw [hd]; simp)
  rw [htt, MgG.set_set] at hNX
  refine hNX.mono ?_
  rintro e w1 ⟨rfl, A1, g1, mv1⟩
  have by1 : Below w1.heap.size w1 (w1.alloc (.cells (rec0.cells none none 0 0) 56)) := (Below.refl _ _).alloc (Nat.le_refl _) _
  exact ⟨⟨rec0, none, none, 0, 0, 0, rfl, Nat.le_refl _, ⟨A1, P, l, rs, t, g1.below by1, hL, hst, hP, (mv.trans mv1).trans (Moves.of_kept (Kept.of_below by1))⟩⟩⟩

theorem line_roll {w0 : World} {A0 : Nat → Prop} {M0 : MgG} (mb : Nat) (hmb : w0.cell? ⟨mb, 0, none⟩ = some (.pointer (some ⟨m, 0, none⟩))) (hnA : ¬ A0 mb) (h : LineS w0 w m p X A0 P0 d M0 n pg v0 K0 L) (hz : P0.z ≤ 1000000) (hn : n ≤ 2147483647) (h1 : 1 ≤ pg) (h2 : pg ≤ 2048) :
    Calls Tryz.prog 22 #[.pointer (some ⟨m, 0, none⟩), .int .i64 n, .int .u64 0, .func (.func 75) #[] #[.pointer (some ⟨mb, 0, none⟩)]] w fun e w' => e = .returned (.int .i64 0) ∧ LineS w0 w' m p X A0 P0 d M0 n pg v0 K0 [] := by
  have hf : ∃ fp, Calls Tryz.prog 50 #[.pointer (some ⟨m, 0, none⟩), .int .i64 n] w fun r w' => r = .returned (.tuple #[.pointer (some fp), .int .i64 0]) ∧ w = w' := by
    obtain ⟨A, P, l, rs, t, hM, _⟩ := h.ex
    exact ⟨_, find_yes hM n (by omega) (by omega) (MgG.set_get M0 n t)⟩
  obtain ⟨fp, hf⟩ := hf
  refine roll_any m n 0 75 (.pointer (some ⟨mb, 0, none⟩)) w fp L.length (fun i wx => LineS w0 wx m p X A0 P0 d M0 n pg v0 K0 (L.drop i)) (fun w' => LineS w0 w' m p X A0 P0 d M0 n pg v0 K0 []) hf (by simpa using h) (fun i hi wx hx => ?_) (fun wx hx => ?_)
  · have e : L.drop i = L[i] :: L.drop (i + 1) := List.drop_eq_getElem_cons hi
    have hx' : LineS w0 wx m p X A0 P0 d M0 n pg v0 K0 (L.drop i) := hx
    rw [e] at hx'
    exact line_step mb hmb hnA hx' hz hn h1 h2
  · have hx' : LineS w0 wx m p X A0 P0 d M0 n pg v0 K0 (L.drop L.length) := hx
    rw [List.drop_length] at hx'
    exact line_end hx' hn

end

end Go.Proofs.YtjemeopafkafgaaGreat

namespace Go.Proofs.YtjemeopafkafgaaGreat
open Go.RowKit Go.Sort
set_option linter.unusedVariables false
set_option linter.unusedSimpArgs false

theorem markS_size (k : Int) (t : MtV) (h : 4 ≤ k ∧ k ≤ 6) : (markS k t).size = 13 := by
  show (encR (recM k t.tx t.last)).toArray.size = 13
  rw [List.size_toArray]; exact recM_len _ _ _ h

section
variable {w : World} {m p : Nat} {X : Int → Nat} {A : Nat → Prop} {P0 P : PG} {l : LG} {d : DG} {M : MgG} {rs : List ByteArray} {t : MtV} {n pg : Nat} {v0 : ByteArray} {L us : List UpV} {u : UpV} {K0 : Nat}

theorem TxLine.start {l : LG} {rs : List ByteArray} {n pg : Nat} {v0 : ByteArray} {K0 : Nat} (h : RecsAt l rs) (hk : l.kept = K0 + 128) (hb : l.bytes.length + l.kept ≤ 4194304) (hv : v0.size ≤ 400) : TxLine l rs (fresh n) n pg v0 [] K0 :=
  ⟨h, trivial, trivial, rfl, rfl, rfl, by show 0 + 25 ≤ 128; omega, hk, hb, Nat.zero_le _, Nat.zero_le _, rfl, hv⟩

theorem TxLine.endOk (h : TxLine l rs t n pg v0 [] K0) (hn : n ≤ 2147483647) : EndOk l t := by
  have h1 := h.bytes
  have h2 := h.keq
  have h3 := h.kept
  have h4 := h.last
  have h5 := h.recs.count
  have h6 := h.recs.len
  have h7 := h.tx
  have h8 : roomSum [] = 0 := rfl
  exact ⟨by omega, by omega, by omega, by omega, by omega, by omega, .inl (by omega)⟩

/-- The log behind the end. -/
theorem TxLine.ended (h : TxLine l rs t n pg v0 [] K0) : RecsAt (endL l t) (rs ++ [markS 6 t]) ∧ (endL l t).kept = K0 ∧ (endL l t).bytes.length = l.bytes.length + 25 ∧ (endL l t).dp = l.dp ∧ l.bytes.length + 25 + K0 ≤ 4194304 := by
  have h1 := h.bytes
  have h2 := h.keq
  have h3 : 0 + 25 ≤ t.kept := h.kept
  have sz := markS_size 6 t (by omega)
  have e := spend_eqs l t (markS 6 t) 0 (by rw [sz]; omega)
  have hR := h.recs.snoc (markS 6 t)
  have hl := putG_len l (markS 6 t)
  unfold endL
  rw [e.1, e.2]
  refine ⟨⟨hR.starts, hR.long, hR.text⟩, ?_, ?_, rfl, ?_⟩
  · show l.kept - ((markS 6 t).size + 12) - (t.kept - ((markS 6 t).size + 12)) = K0
    rw [sz]; omega
  · show (putG l (markS 6 t)).bytes.length = _
    rw [hl, sz]
  · omega

/-- What Abort leaves. -/
structure LineAb (w w' : World) (m p : Nat) (X : Int → Nat) (A : Nat → Prop) (P0 : PG) (d : DG) (M : MgG) (n pg : Nat) (v0 : ByteArray) (K0 : Nat) : Prop where
  ex : ∃ A' P' l' rs', MSys w' m p X A' P' l' d (M.gone n) ∧ Moves A A' w w' ∧ PgTo P0 P' pg v0 ∧ RecsAt l' rs' ∧ l'.kept = K0 ∧ l'.bytes.length + l'.kept ≤ 4194304

theorem line_abort (h : MSys w m p X A P l d M) (ht : M.T n = some t) (hL : TxLine l rs t n pg v0 L K0) (hst : t.state = 1) (hk : roomSum L + 50 ≤ t.kept) (hP : PgTo P0 P pg (nowOf v0 L)) (hz : P0.z ≤ 1000000) (hn : n ≤ 2147483647) (h1 : 1 ≤ pg) (h2 : pg ≤ 2048) (mb : Nat) (hmb : w.cell? ⟨mb, 0, none⟩ = some (.pointer (some ⟨m, 0, none⟩))) (hnA : ¬ A mb) :
    Calls Tryz.prog 21 #[.pointer (some ⟨m, 0, none⟩), .int .i64 n, .func (.func 75) #[] #[.pointer (some ⟨mb, 0, none⟩)]] w fun e w' => e = .returned (.int .i64 0) ∧ LineAb w w' m p X A P0 d M n pg v0 K0 := by
  have hb := hL.bytes
  have hq := hL.keq
  have hlast := hL.last
  have hcnt := hL.recs.count
  have hst' := hL.recs.len
  have htx := hL.tx
  have est : standN t.debts t.next = L.length := by rw [hL.debts, hL.next]; exact stand_line hL.falls (Nat.le_refl _)
  have eow : owedN t.debts (standN t.debts t.next) = roomSum L := by rw [est, hL.debts]; exact owed_line L
  have eab : abN t = roomSum L + 25 := by
    unfold abN wayN
    rw [hL.begun, if_pos rfl, if_neg (by decide), eow]
  have sz := markS_size 5 t (by omega)
  have esp := spend_eqs l t (markS 5 t) (abN t) (by rw [sz, eab]; omega)
  have hab : TxLine (abL l t) (rs ++ [markS 5 t]) (abT l t) n pg v0 L K0 := by
    unfold abL abT
    rw [esp.1, esp.2]
    exact hL.spent (markS 5 t) (by rw [sz]; omega) rfl
  refine (abort_any (Z := fun P2 l2 d2 M2 t2 => d2 = d ∧ M2 = M.set n t2 ∧ PgTo P0 P2 pg v0 ∧ ∃ rs2, TxLine l2 rs2 t2 n pg v0 [] K0) h n (by omega) (by omega) ht hst 75 (.pointer (some ⟨mb, 0, none⟩)) (by omega) (by omega) (by rw [hL.debts]; exact debts_rise hL.falls) (by rw [hL.debts, debts_length]; have := room_len L; omega) (by rw [eow]; omega) (by omega) (by omega) (by omega) (by rw [eab]; omega) (.inl (by rw [eab]; omega)) (fun wx A1 g1 mv1 => ?_)).mono ?_
  · have hml : mb < w.heap.size := World.block_lt_of_cell? _ _ hmb
    have hmx := mv1.off hml hnA
    have hmbx : wx.cell? ⟨mb, 0, none⟩ = some (.pointer (some ⟨m, 0, none⟩)) := (World.cell?_of_block (w := w) (a := ⟨mb, 0, none⟩) hmx.1).trans hmb
    refine (line_roll (w0 := wx) (A0 := A1) (M0 := M) mb hmbx hmx.2 ⟨A1, P, _, _, _, g1, hab, rfl, hP, Moves.refl _ _⟩ hz hn h1 h2).mono ?_
    rintro e w' ⟨rfl, hS⟩
    obtain ⟨A2, P2, l2, rs2, t2, g2, hL2, _, hP2, mv2⟩ := hS.ex
    exact ⟨rfl, P2, l2, d, M.set n t2, t2, ⟨A2, g2, mv2⟩, MgG.set_get M n t2, hL2.endOk hn, rfl, rfl, hP2, rs2, hL2⟩
  · rintro e w' ⟨rfl, hA⟩
    obtain ⟨A', P2, l2, d2, M2, t2, g2, mv2, _, _, rfl, rfl, hP2, rs2, hL2⟩ := hA.ex
    obtain ⟨a1, a2, a3, a4, a5⟩ := hL2.ended
    rw [MgG.set_gone] at g2
    exact ⟨rfl, ⟨A', P2, _, _, g2, mv2, hP2, a1, a2, by rw [a2, a3]; exact a5⟩⟩

end

end Go.Proofs.YtjemeopafkafgaaGreat

namespace Go.Proofs.YtjemeopafkafgaaGreat
open Go.RowKit Go.Sort
set_option linter.unusedVariables false
set_option linter.unusedSimpArgs false

/-- What must be left, beside what is owed, in a state. -/
def cOf (st : Int) : Nat := if st = 1 then 50 else 25

theorem cOf_le (st : Int) : 25 ≤ cOf st ∧ cOf st ≤ 50 := by unfold cOf; split <;> omega

section
variable {w : World} {m p : Nat} {X : Int → Nat} {A : Nat → Prop} {P0 P : PG} {l : LG} {d : DG} {M : MgG} {rs : List ByteArray} {t : MtV} {n pg : Nat} {v0 : ByteArray} {L us : List UpV} {u : UpV} {K0 : Nat}

theorem save_any (h : MSys w m p X A P l d M) (n : Int) (hn1 : -9223372036854775808 ≤ n) (hn2 : n ≤ 9223372036854775807) {t : MtV} (ht : M.T n = some t) :
    Calls Tryz.prog 15 #[.pointer (some ⟨m, 0, none⟩), .int .i64 n] w fun e w' => e = .returned (.tuple #[.int .u64 t.next, .int .i64 0]) ∧ w = w' := by
  have HFI := hidx (find_yes h n hn1 hn2 ht)
  obtain ⟨S, hT, _, _⟩ := h.tx ht
  have c3 := hT.cells.c3
  clear h ht hT
  go_enter Tryz.func15, Tryz.ntmps15
  go_wp2_with fail
  refine HFI.out.mono ?_
  rintro e w1 ⟨rfl, rfl⟩
  clear HFI
  go_wp2
  go_ret2
  exact ⟨rfl, rfl⟩

end

end Go.Proofs.YtjemeopafkafgaaGreat

namespace Go.Proofs.YtjemeopafkafgaaGreat
open Go.RowKit Go.Sort
set_option linter.unusedVariables false
set_option linter.unusedSimpArgs false

/-- The record of a nested top action's end. -/
def recT (t : MtV) (n : Int) (next : Nat) : RecV := ⟨3, n, t.last, next, 0, ⟨0, 0, ⟨#[]⟩, ⟨#[]⟩⟩, 0, 0, ⟨#[]⟩, 0, 0, false, [], []⟩
def topS (t : MtV) (n : Int) (next : Nat) : ByteArray := ⟨(encR (recT t n next)).toArray⟩

theorem recT_ok (t : MtV) (n : Int) (next : Nat) (hn : 0 ≤ n ∧ n ≤ 2147483647) (hl : t.last < 18446744073709551616) (hx : next < 18446744073709551616) (w : World) (ta da : Option Addr) (ht : TxsAt w ta []) (hd : DisAt w da []) : (recT t n next).Ok w ta da := by
  refine ⟨by simp [recT], by simp only [recT]; omega, hl, hx, by simp [recT], ?_, by simp [recT], by simp [recT], (by show (0 : Nat) ≤ _; omega), by simp [recT], by simp [recT], by simp [recT], by simp [recT], ht, hd⟩
  constructor <;> first | (simp [recT]; done) | (show (0 : Nat) ≤ _; omega)

theorem recT_may (t : MtV) (n : Int) (next : Nat) (hn : 0 ≤ n ∧ n ≤ 2147483647) : mayR (recT t n next) = true := by
  have e : namedV (recT t n next) = recT t n next := rfl
  have k1 : changeB (recT t n next) = false := rfl
  have k2 : keyB (recT t n next) = false := rfl
  have k3 : listsB (recT t n next) = false := rfl
  have k4 : sameR (recT t n next) (recT t n next) = true := by unfold sameR; simp
  unfold mayR
  rw [e, k4, k1, k2, k3, decide_eq_true (show 1 ≤ (recT t n next).kind ∧ (recT t n next).kind ≤ 8 from ⟨by show (1 : Int) ≤ 3; decide, by show (3 : Int) ≤ 8; decide⟩), decide_eq_true (show 0 ≤ (recT t n next).tx ∧ (recT t n next).tx ≤ 2147483647 from hn)]
  rfl

theorem topS_size (t : MtV) (n : Int) (next : Nat) : (topS t n next).size = 21 := by
  show (encR _).toArray.size = _
  rw [List.size_toArray]
  have k1 : changeB (recT t n next) = false := rfl
  have k2 : keyB (recT t n next) = false := rfl
  have k3 : listsB (recT t n next) = false := rfl
  have k4 : nextB (recT t n next) = true := rfl
  unfold encR
  rw [k1, k2, k3, k4]
  simp [putL_length]

/-- What must be left behind it. -/
def topN (t : MtV) (next : Nat) : Nat := wayN t t.state (owedN t.debts (standN t.debts next))

section
variable {w : World} {m p : Nat} {X : Int → Nat} {A : Nat → Prop} {P : PG} {l : LG} {d : DG} {M : MgG}

set_option maxHeartbeats 6400000 in
set_option maxRecDepth 20000 in
theorem top_ok (h : MSys w m p X A P l d M) (n : Int) (hn : 0 ≤ n ∧ n ≤ 2147483647) {t : MtV} (ht : M.T n = some t) (next : Nat) (hnx : next ≤ t.next) (hxb : t.next < 18446744073709551616) (hla : t.last < 18446744073709551616) (hr : RisesD t.debts) (hdl : t.debts.length ≤ 1000000) (hod : owedN t.debts (standN t.debts next) ≤ 9000000) (hk : t.kept ≤ 10000000) (hb : 33 + l.bytes.length ≤ 4194304) (hs : l.starts.length ≤ 10000000) (hl : l.kept + ((33 + topN t next) - t.kept) ≤ 4194304) (hm : 33 + topN t next ≤ t.kept ∨ l.kept + ((33 + topN t next) - t.kept) + l.bytes.length ≤ 4194304) :
    Calls Tryz.prog 16 #[.pointer (some ⟨m, 0, none⟩), .int .i64 n, .int .u64 next] w fun e w' => e = .returned (.tuple #[.int .u64 ((l.bytes.length + 1 : Nat) : Int), .int .i64 0]) ∧ ∃ A', MSys w' m p X A' P (spendL l t (topS t n next) (topN t next)) d (M.set n { spendT l t (topS t n next) (topN t next) with next := next, debts := t.debts.take (standN t.debts next) }) ∧ Moves A A' w w' := by
  have HFI := hidx (find_yes h n (by omega) (by omega) ht)
  obtain ⟨S, hT, hSA, _⟩ := h.tx ht
  have c2 := hT.cells.c2
  have c3 := hT.cells.c3
  have sz := topS_size t n next
  obtain ⟨o, Ho⟩ : ∃ o, Hid (owedN t.debts (standN t.debts next) = o) := ⟨_, rfl⟩
  obtain ⟨lf, Hlf⟩ : ∃ lf, Hid (topN t next = lf) := ⟨_, rfl⟩
  have ho9 : o ≤ 9000000 := by rw [← Ho.out]; exact hod
  have hlf : lf ≤ 10000000 := by
    rw [← Hlf.out]
    unfold topN wayN
    rw [Ho.out]
    split
    · split <;> omega
    · omega
  have HENC : Hid (∀ wx, Calls Tryz.prog 52 #[.agg #[.int .i64 3, .int .i64 n, .int .u64 t.last, .int .u64 next, .int .u32 0, .int .i64 0, .int .i64 0, .string ⟨#[]⟩, .string ⟨#[]⟩, .int .i64 0, .int .i64 0, .string ⟨#[]⟩, .int .u32 0, .int .i64 0, .bool false, .slice none 0 0, .slice none 0 0]] wx fun e w' => e = .returned (.tuple #[.string (topS t n next), .int .i64 0]) ∧ Below wx.heap.size wx w') := fun wx => renc_ok (recT t n next) none none 0 0 wx (recT_ok t n next hn hla (by omega) wx none none (.inl rfl) (.inl rfl)) (recT_may t n next hn) ⟨fun i hi => by simp [recT] at hi, fun i hi => by simp [recT] at hi⟩
  have HMT : Hid (∀ wx, Below w.heap.size w wx → ∃ S, MtAt S wx (X n) t) := fun wx bx => by
    obtain ⟨S, hT, _, _⟩ := (h.below bx).tx ht
    exact ⟨S, hT⟩
  have HOW : Hid (∀ wx, Below w.heap.size w wx → Calls Tryz.prog 61 #[.pointer (some ⟨X n, 0, none⟩), .int .u64 next] wx fun r w' => r = .returned (.int .i64 o) ∧ Below wx.heap.size wx w') := fun wx bx => by
    obtain ⟨S, hT⟩ := HMT.out wx bx
    have := owes_any hT hr (by omega) next
    rw [Ho.out] at this
    exact this
  have HWB : Hid (∀ wx, Below w.heap.size w wx → Calls Tryz.prog 60 #[.pointer (some ⟨X n, 0, none⟩), .int .i64 t.state, .int .i64 o] wx fun r w' => r = .returned (.int .i64 lf) ∧ wx = w') := fun wx bx => by
    obtain ⟨S, hT⟩ := HMT.out wx bx
    have := wayBack_any hT t.state o (by omega)
    rw [show wayN t t.state o = lf by rw [← Hlf.out, ← Ho.out]; rfl] at this
    exact this
  obtain ⟨s, Hs⟩ : ∃ s, Hid (topS t n next = s) := ⟨_, rfl⟩
  rw [Hs.out] at HENC sz ⊢
  rw [Hlf.out] at hl hm ⊢
  have HSP : Hid (∀ wx, Below w.heap.size w wx → Calls Tryz.prog 59 #[.pointer (some ⟨m, 0, none⟩), .pointer (some ⟨X n, 0, none⟩), .string s, .int .i64 lf] wx fun r w' => r = .returned (.tuple #[.int .u64 ((l.bytes.length + 1 : Nat) : Int), .int .i64 0]) ∧ w'.cell? ⟨X n, 1, none⟩ = some (.int .i64 t.state) ∧ Hid (∃ A', MSys w' m p X A' P (spendL l t s lf) d (M.set n (spendT l t s lf)) ∧ Moves A A' w w')) := fun wx bx => by
    refine (spend_any (h.below bx) ht s lf (by omega) (by omega) hlf hk (by omega) hs (by rw [sz]; exact hl) (by rw [sz]; exact hm)).mono ?_
    rintro e w' ⟨rfl, A', k1, k2⟩
    obtain ⟨Sx, hTx, _, _⟩ := k1.tx (MgG.set_get M n (spendT l t s lf))
    exact ⟨rfl, hTx.cells.c1, hidx ⟨A', k1, (Moves.of_kept (Kept.of_below bx)).trans k2⟩⟩
  have HCS : Hid (∀ wx, Below w.heap.size w wx → wx.cell? ⟨X n, 1, none⟩ = some (.int .i64 t.state)) := fun wx bx => by
    obtain ⟨S, hT⟩ := HMT.out wx bx
    exact hT.cells.c1
  have HR := hidx hr
  have HDL := hidx hdl
  have hnx' : (next : Int) ≤ (t.next : Int) := by omega
  have hwo : IntKind.i64.wrap (o : Int) = (o : Int) := by rw [IntKind.wrap_i64]; omega
  clear h ht hT hSA hla hr hdl hod hk hb hs hl hm Ho Hlf Hs HMT sz hlf hxb hnx
  go_enter Tryz.func16, Tryz.ntmps16
  go_wp2_with fail
  refine HFI.out.mono ?_
  rintro e w1 ⟨rfl, rfl⟩
  clear HFI
  go_wp2_with fail
  refine (HENC.out _).mono ?_
  rintro e w2 ⟨rfl, b2⟩
  have bD : Below w.heap.size w w2.drew := b2.drew
  have cs := HCS.out w2 b2
  have HOW2 : Hid (Calls Tryz.prog 61 #[.pointer (some ⟨X n, 0, none⟩), .int .u64 next] w2.drew fun r w' => r = .returned (.int .i64 o) ∧ w'.cell? ⟨X n, 1, none⟩ = some (.int .i64 t.state) ∧ Hid (Below w.heap.size w w')) := by
    refine (HOW.out _ bD).mono ?_
    rintro e w' ⟨rfl, b⟩
    have b' := below_chain bD b
    exact ⟨rfl, HCS.out w' b', hidx b'⟩
  clear HENC HOW c2 c3 bD
  go_upto_region 9 with fail
  go_region_held3 (fun wy => wy.cell? ⟨X n, 1, none⟩ = some (.int .i64 t.state)) (first | exact cs | assumption | go_keep)
    (first
      | (go_at_call 61; refine HOW2.out.mono ?_; rintro x w3 ⟨rfl, cs3, b3⟩)
      | (go_at_call 60; refine (HWB.out _ b3.out).mono ?_; rintro x w4 ⟨rfl, rfl⟩)
      | (go_at_call 59; refine (HSP.out _ b3.out).mono ?_; rintro x w5 ⟨rfl, cs5, HF⟩))
  obtain ⟨A5, g5, mv5⟩ := HF.out
  obtain ⟨S5, hT5, _, step5⟩ := g5.tx (MgG.set_get M n (spendT l t s lf))
  have HGO := hidx (goOn_any hT5 (show RisesD (spendT l t s lf).debts from HR.out) (by have := HDL.out; show t.debts.length ≤ _; omega) next)
  have HST := hidx step5
  have MV5 := hidx mv5
  clear HF g5 mv5 hT5 step5 HSP HWB HOW2 cs cs3 cs5 b3 b2 HCS HR HDL
  go_wp2_with fail
  refine HGO.out.mono ?_
  rintro e w6 ⟨rfl, hT6, mv6⟩
  obtain ⟨A6, h6, mvA6⟩ := HST.out _ _ _ hT6 rfl mv6
  rw [MgG.set_set] at h6
  have HF6 := hidx (⟨A6, h6, MV5.out.trans mvA6⟩ : ∃ A', MSys w6 m p X A' P (spendL l t s lf) d (M.set n { spendT l t s lf with next := next, debts := t.debts.take (standN t.debts next) }) ∧ Moves A A' w w6)
  clear hT6 mv6 h6 mvA6 HGO HST MV5
  go_wp2
  go_ret2
  exact ⟨rfl, HF6.out⟩

end

end Go.Proofs.YtjemeopafkafgaaGreat
