/-
  A transaction's changes of one slot, in a line: what it logged, where, and what it owes; plain data.
-/
import Derived.Test.YtdhphbokkmofaaaGreatTxRollJ
import Derived.Test.YtdhphbokkmofaaaGreatTxCompC
import Derived.Test.YtdhphbokkmofaaaGreatBackMathJ
set_option linter.unusedVariables false
set_option linter.unusedSimpArgs false
namespace Go.Proofs.YtdhphbokkmofaaaGreat
open Go.RowKit Go.Sort

structure UpV where
  pl : Nat
  S : ByteArray
  old : ByteArray

def plOf : List UpV → Nat
  | [] => 0
  | u :: _ => u.pl

def roomSum : List UpV → Nat
  | [] => 0
  | u :: us => roomSum us + (197 + u.S.size + u.old.size)

theorem room_len : ∀ L : List UpV, L.length * 197 ≤ roomSum L
  | [] => Nat.le_refl _
  | u :: us => by
    have := room_len us
    show (us.length + 1) * 197 ≤ roomSum us + _
    omega

def debtsOf : List UpV → List DbV
  | [] => []
  | u :: us => debtsOf us ++ [⟨u.pl, roomSum (u :: us)⟩]

def FallsL : List UpV → Prop
  | [] => True
  | u :: us => plOf us < u.pl ∧ FallsL us

theorem debts_length : ∀ L : List UpV, (debtsOf L).length = L.length
  | [] => rfl
  | u :: us => by simp [debtsOf, debts_length us]

theorem debts_mem : ∀ {L : List UpV}, FallsL L → ∀ q ∈ debtsOf L, q.lsn ≤ plOf L
  | [], _, q, h => by simp [debtsOf] at h
  | u :: us, hf, q, h => by
    simp only [debtsOf, List.mem_append, List.mem_singleton] at h
    rcases h with h | rfl
    · have := debts_mem hf.2 q h
      have := hf.1
      show q.lsn ≤ u.pl
      omega
    · exact Nat.le_refl _

theorem rises_snoc {D : List DbV} {e : DbV} (h : RisesD D) (he : ∀ q ∈ D, q.lsn < e.lsn) : RisesD (D ++ [e]) := by
  intro i j hj hij
  have hj' : j < D.length + 1 := by simpa using hj
  by_cases q : j < D.length
  · rw [List.getElem_append_left (by omega), List.getElem_append_left q]
    exact h i j q hij
  · have : j = D.length := by omega
    subst this
    rw [List.getElem_append_left hij]
    simp only [List.getElem_append_right (Nat.le_refl _), Nat.sub_self, List.getElem_cons_zero]
    exact he _ (List.getElem_mem _)

theorem debts_rise : ∀ {L : List UpV}, FallsL L → RisesD (debtsOf L)
  | [], _ => fun i j hj => absurd hj (Nat.not_lt_zero _)
  | u :: us, hf => rises_snoc (debts_rise hf.2) fun q hq => by
    have := debts_mem hf.2 q hq
    have := hf.1
    show q.lsn < u.pl
    omega

theorem stand_all {D : List DbV} {x : Nat} (h : ∀ q ∈ D, q.lsn ≤ x) : standN D x = D.length := by
  have := List.takeWhile_append_of_pos (l₁ := D) (l₂ := []) (p := fun q : DbV => decide (q.lsn ≤ x)) (fun q hq => by simpa using h q hq)
  unfold standN
  rw [List.append_nil] at this
  rw [this]
  simp

theorem stand_line {L : List UpV} (hf : FallsL L) {x : Nat} (hx : plOf L ≤ x) : standN (debtsOf L) x = L.length := by
  rw [stand_all (fun q hq => Nat.le_trans (debts_mem hf q hq) hx), debts_length]

theorem take_tail (u : UpV) (us : List UpV) : (debtsOf (u :: us)).take us.length = debtsOf us := by
  rw [← debts_length us]
  exact List.take_left

theorem take_all (L : List UpV) : (debtsOf L).take L.length = debtsOf L := by
  rw [← debts_length L]
  exact List.take_length

theorem owed_line : ∀ L : List UpV, owedN (debtsOf L) L.length = roomSum L
  | [] => rfl
  | u :: us => by
    unfold owedN
    rw [if_neg (by simp)]
    have : (debtsOf (u :: us))[(u :: us).length - 1]? = some ⟨u.pl, roomSum (u :: us)⟩ := by
      show (debtsOf us ++ [_])[us.length + 1 - 1]? = _
      rw [Nat.add_sub_cancel, ← debts_length us]
      simp
    rw [this]
    rfl

theorem owed_tail (u : UpV) (us : List UpV) : owedN (debtsOf (u :: us)) us.length = roomSum us := by
  rw [← owed_line us]
  unfold owedN
  by_cases e : us.length = 0
  · rw [if_pos e, if_pos e]
  · rw [if_neg e, if_neg e]
    have hl := debts_length us
    show (((debtsOf us ++ [_])[us.length - 1]?).map _).getD 0 = _
    rw [List.getElem?_append_left (by omega)]

def setO (S old : ByteArray) : OpV := ⟨4, 0, S, old⟩
def setC (pg : Nat) (S old : ByteArray) : ChgV := ⟨pg, setO S old, 1, 0, ⟨#[]⟩, 0, 0, false⟩
def lineR (n pg prev : Nat) (u : UpV) : RecV := ⟨1, n, prev, 0, pg, setO u.S u.old, 1, 0, ⟨#[]⟩, 0, 0, false, [], []⟩

theorem sameR_self (r : RecV) : sameR r r = true := by unfold sameR; simp

theorem text_len (s : ByteArray) (h : s.size ≤ 65535) : (textB s).length = 2 + s.size := by
  unfold textB
  rw [if_pos h, List.length_append, putL_length, Array.length_toList]
  rfl

theorem putG_len (l : LG) (s : ByteArray) : (putG l s).bytes.length = l.bytes.length + (s.size + 12) := by
  show (l.bytes ++ frameL _ _).length = _
  rw [List.length_append, frameL_length, Array.length_toList]
  show l.bytes.length + (s.size + 12) = _
  rfl

theorem RecsAt.count {l : LG} {rs : List ByteArray} (h : RecsAt l rs) : rs.length * 12 ≤ l.bytes.length := by
  have h1 := h.long
  have h2 := placeOf_mono rs (Nat.zero_le rs.length)
  have h3 : placeOf rs 0 = 1 := rfl
  omega

section
variable {l : LG} {rs : List ByteArray} {t : MtV} {n pg : Nat} {v0 : ByteArray} {L us : List UpV} {u : UpV} {K0 : Nat}

theorem spend_eqs (l : LG) (t : MtV) (s : ByteArray) (left : Nat) (h : s.size + 12 + left ≤ t.kept) : spendL l t s left = { putG l s with kept := l.kept - (s.size + 12) } ∧ spendT l t s left = { t with kept := t.kept - (s.size + 12), last := l.bytes.length + 1 } := by
  unfold spendL spendT coverL coverT
  rw [show s.size + 12 + left - t.kept = 0 by omega]
  exact ⟨rfl, rfl⟩

end

end Go.Proofs.YtdhphbokkmofaaaGreat

namespace Go.Proofs.YtdhphbokkmofaaaGreat
open Go.RowKit Go.Sort

theorem markS_size (k : Int) (t : MtV) (h : 4 ≤ k ∧ k ≤ 6) : (markS k t).size = 13 := by
  show (encR (recM k t.tx t.last)).toArray.size = 13
  rw [List.size_toArray]; exact recM_len _ _ _ h

section
variable {w : World} {m p : Nat} {X : Int → Nat} {A : Nat → Prop} {P0 P : PG} {l : LG} {d : DG} {M : MgG} {rs : List ByteArray} {t : MtV} {n pg : Nat} {v0 : ByteArray} {L us : List UpV} {u : UpV} {K0 : Nat}

end

end Go.Proofs.YtdhphbokkmofaaaGreat

namespace Go.Proofs.YtdhphbokkmofaaaGreat
open Go.RowKit Go.Sort

def cOf (st : Int) : Nat := if st = 1 then 50 else 25

theorem cOf_le (st : Int) : 25 ≤ cOf st ∧ cOf st ≤ 50 := by unfold cOf; split <;> omega

section
variable {w : World} {m p : Nat} {X : Int → Nat} {A : Nat → Prop} {P0 P : PG} {l : LG} {d : DG} {M : MgG} {rs : List ByteArray} {t : MtV} {n pg : Nat} {v0 : ByteArray} {L us : List UpV} {u : UpV} {K0 : Nat}

theorem save_any (h : MSys w m p X A P l d M) (n : Int) (hn1 : -9223372036854775808 ≤ n) (hn2 : n ≤ 9223372036854775807) {t : MtV} (ht : M.T n = some t) :
    Calls Tryz.prog 88 #[.pointer (some ⟨m, 0, none⟩), .int .i64 n] w fun e w' => e = .returned (.tuple #[.int .u64 t.next, .int .i64 0]) ∧ w = w' := by
  have HFI := hidx (find_yes h n hn1 hn2 ht)
  obtain ⟨S, hT, _, _⟩ := h.tx ht
  have c3 := hT.cells.c3
  clear h ht hT
  go_enter Tryz.func88, Tryz.ntmps88
  go_wp2_with fail
  refine HFI.out.mono ?_
  rintro e w1 ⟨rfl, rfl⟩
  clear HFI
  go_wp2
  go_ret2
  exact ⟨rfl, rfl⟩

end

end Go.Proofs.YtdhphbokkmofaaaGreat
