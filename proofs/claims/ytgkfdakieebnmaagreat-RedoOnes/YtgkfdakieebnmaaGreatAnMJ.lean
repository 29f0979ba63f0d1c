/-
  What a log says, as plain data: tables by their numbers, and the lists in order that say the same.
-/
import Derived.Test.YtgkfdakieebnmaaGreatRecValC
import Derived.Test.YtgkfdakieebnmaaGreatPoolReadJ
import Derived.Test.YtgkfdakieebnmaaGreatRepeatJ
set_option linter.unusedVariables false
set_option linter.unusedSimpArgs false
namespace Go.Proofs.YtgkfdakieebnmaaGreat
open Go.RowKit Go.Sort

structure Can {α : Type} (key : α → Int) (l : List α) (F : Int → Option α) : Prop where
  srt : l.Pairwise fun a b => key a < key b
  mem : ∀ n x, (x ∈ l ∧ key x = n) ↔ F n = some x

section
variable {α : Type} {key : α → Int}

theorem Can.nil : Can key [] (fun _ => none) := ⟨.nil, fun n x => by simp⟩

theorem Can.at {l : List α} {F : Int → Option α} (h : Can key l F) {x : α} (hx : x ∈ l) : F (key x) = some x := (h.mem _ x).1 ⟨hx, rfl⟩

theorem pair_eq {l l' : List α} (h : l.Pairwise fun a b => key a < key b) (h' : l'.Pairwise fun a b => key a < key b) (hm : ∀ x, x ∈ l ↔ x ∈ l') : l = l' := by
  induction l generalizing l' with
  | nil =>
    cases l' with
    | nil => rfl
    | cons y l' => exact absurd ((hm y).2 (List.mem_cons_self ..)) (List.not_mem_nil)
  | cons x l ih =>
    cases l' with
    | nil => exact absurd ((hm x).1 (List.mem_cons_self ..)) (List.not_mem_nil)
    | cons y l' =>
      rw [List.pairwise_cons] at h h'
      have e : x = y := by
        rcases List.mem_cons.1 ((hm x).1 (List.mem_cons_self ..)) with e | e
        · exact e
        · rcases List.mem_cons.1 ((hm y).2 (List.mem_cons_self ..)) with e' | e'
          · exact e'.symm
          · have := h.1 y e'; have := h'.1 x e; omega
      subst e
      congr 1
      refine ih h.2 h'.2 fun z => ?_
      constructor
      · intro hz
        rcases List.mem_cons.1 ((hm z).1 (List.mem_cons_of_mem _ hz)) with e | e
        · subst e; have := h.1 z hz; omega
        · exact e
      · intro hz
        rcases List.mem_cons.1 ((hm z).2 (List.mem_cons_of_mem _ hz)) with e | e
        · subst e; have := h'.1 z hz; omega
        · exact e

theorem Can.same {l l' : List α} {F : Int → Option α} (h : Can key l F) (h' : Can key l' F) : l = l' :=
  pair_eq h.srt h'.srt fun x => ⟨fun hx => ((h'.mem _ x).2 (h.at hx)).1, fun hx => ((h.mem _ x).2 (h'.at hx)).1⟩

def turnF (F : Int → Option α) (n : Int) (x : Option α) : Int → Option α := fun k => if k = n then x else F k

def ainsL (key : α → Int) : List α → α → List α
  | [], t => [t]
  | x :: l, t => if key x < key t then x :: ainsL key l t else if key x = key t then t :: l else t :: x :: l

theorem ainsL_mem {l : List α} {t : α} (h : l.Pairwise fun a b => key a < key b) : ∀ x, x ∈ ainsL key l t ↔ (x = t ∨ (x ∈ l ∧ key x ≠ key t)) := by
  induction l with
  | nil => intro x; simp [ainsL]
  | cons y l ih =>
    intro x
    rw [List.pairwise_cons] at h
    unfold ainsL
    by_cases a : key y < key t
    · rw [if_pos a, List.mem_cons, ih h.2, List.mem_cons]
      constructor
      · rintro (e | e | e)
        · exact .inr ⟨.inl e, by rw [e]; omega⟩
        · exact .inl e
        · exact .inr ⟨.inr e.1, e.2⟩
      · rintro (e | ⟨e | e, e'⟩)
        · exact .inr (.inl e)
        · exact .inl e
        · exact .inr (.inr ⟨e, e'⟩)
    · rw [if_neg a]
      by_cases b : key y = key t
      · rw [if_pos b, List.mem_cons, List.mem_cons]
        constructor
        · rintro (e | e)
          · exact .inl e
          · exact .inr ⟨.inr e, by have := h.1 x e; omega⟩
        · rintro (e | ⟨e | e, e'⟩)
          · exact .inl e
          · rw [e] at e'; exact absurd b e'
          · exact .inr e
      · rw [if_neg b, List.mem_cons, List.mem_cons]
        constructor
        · rintro (e | e | e)
          · exact .inl e
          · exact .inr ⟨.inl e, by rw [e]; exact b⟩
          · exact .inr ⟨.inr e, by have := h.1 x e; omega⟩
        · rintro (e | ⟨e | e, e'⟩)
          · exact .inl e
          · exact .inr (.inl e)
          · exact .inr (.inr e)

theorem ainsL_srt {l : List α} {t : α} (h : l.Pairwise fun a b => key a < key b) : (ainsL key l t).Pairwise fun a b => key a < key b := by
  induction l with
  | nil => simp [ainsL]
  | cons y l ih =>
    rw [List.pairwise_cons] at h
    unfold ainsL
    by_cases a : key y < key t
    · rw [if_pos a, List.pairwise_cons]
      refine ⟨fun x hx => ?_, ih h.2⟩
      rcases (ainsL_mem h.2 x).1 hx with e | e
      · rw [e]; exact a
      · exact h.1 x e.1
    · rw [if_neg a]
      by_cases b : key y = key t
      · rw [if_pos b, List.pairwise_cons]
        exact ⟨fun x hx => by have := h.1 x hx; omega, h.2⟩
      · rw [if_neg b, List.pairwise_cons]
        refine ⟨fun x hx => ?_, List.pairwise_cons.2 h⟩
        rcases List.mem_cons.1 hx with e | e
        · rw [e]; omega
        · have := h.1 x e; omega

theorem Can.ins {l : List α} {F : Int → Option α} (h : Can key l F) (t : α) : Can key (ainsL key l t) (turnF F (key t) (some t)) := by
  refine ⟨ainsL_srt h.srt, fun n x => ?_⟩
  rw [ainsL_mem h.srt]
  unfold turnF
  by_cases e : n = key t
  · rw [if_pos e]
    constructor
    · rintro ⟨a | a, b⟩
      · rw [a]
      · rw [e] at b; exact absurd b a.2
    · intro a
      obtain rfl := Option.some.inj a
      exact ⟨.inl rfl, e.symm⟩
  · rw [if_neg e, ← h.mem]
    constructor
    · rintro ⟨a | a, b⟩
      · rw [a] at b; exact absurd b.symm e
      · exact ⟨a.1, b⟩
    · rintro ⟨a, b⟩
      exact ⟨.inr ⟨a, by rw [b]; exact e⟩, b⟩

theorem Can.ext {l : List α} {F G : Int → Option α} (h : Can key l F) (e : ∀ n, G n = F n) : Can key l G := ⟨h.srt, fun n x => by rw [e]; exact h.mem n x⟩

end

def keyT (x : TxV) : Int := x.1
def keyD (x : DiV) : Int := x.1

structure HearG where
  T : Int → Option TxV
  D : Int → Option DiV
  most : Int
  recs : Nat

def hear0 : HearG := ⟨fun _ => none, fun _ => none, 0, 0⟩

def HearG.setT (h : HearG) (x : TxV) : HearG := { h with T := turnF h.T x.1 (some x) }
def HearG.delT (h : HearG) (n : Int) : HearG := { h with T := turnF h.T n none }
def HearG.setD (h : HearG) (x : DiV) : HearG := { h with D := turnF h.D x.1 (some x) }
def HearG.top (h : HearG) (n : Int) : HearG := { h with most := max h.most n }

def knownF (h : HearG) (n : Int) : TxV := (h.T n).getD (n, 1, 0, 0)

def behindF (x : TxV) (at' : Nat) (k : Int) (nx : Nat) : TxV :=
  (x.1, if k = 4 then 2 else if k = 5 then 3 else x.2.1, at', if k = 1 then at' else if k = 2 ∨ k = 3 then nx else x.2.2.2)

def hearTx (h : HearG) (x : TxV) : HearG := if (h.T x.1).isSome then h.top x.1 else (h.top x.1).setT x
def hearDi (h : HearG) (x : DiV) : HearG := match h.D x.1 with | some s => if x.2 < s.2 then h.setD x else h | none => h.setD x
def hearChg (h : HearG) (p at' : Nat) : HearG := if (h.D p).isSome then h else h.setD (p, at')

def hearOwn (h : HearG) (at' : Nat) (r : RecV) : HearG :=
  if r.kind = 7 then h else if r.kind = 8 then r.dirty.foldl hearDi (r.txs.foldl hearTx h) else if r.kind = 6 then h.delT r.tx else h.setT (behindF (knownF h r.tx) at' r.kind r.next)
def hearRec (h : HearG) (at' : Nat) (r : RecV) : HearG :=
  let h2 := hearOwn { h with recs := h.recs + 1, most := max h.most r.tx } at' r
  if r.kind = 1 ∨ r.kind = 2 then hearChg h2 r.page at' else h2

def hearAll (h : HearG) : List (Nat × RecV) → HearG
  | [] => h
  | x :: l => hearAll (hearRec h x.1 x.2) l

structure HearG.Wf (h : HearG) : Prop where
  t : ∀ n x, h.T n = some x → x.1 = n
  d : ∀ n x, h.D n = some x → (x.1 : Int) = n

theorem wf0 : hear0.Wf := ⟨fun _ _ h => (by cases h), fun _ _ h => (by cases h)⟩

theorem HearG.Wf.setT {h : HearG} (k : h.Wf) (x : TxV) : (h.setT x).Wf := ⟨fun n y hy => by
  change turnF h.T x.1 (some x) n = some y at hy
  unfold turnF at hy
  by_cases e : n = x.1
  · rw [if_pos e] at hy; cases hy; exact e.symm
  · rw [if_neg e] at hy; exact k.t n y hy, k.d⟩
theorem HearG.Wf.delT {h : HearG} (k : h.Wf) (m : Int) : (h.delT m).Wf := ⟨fun n y hy => by
  change turnF h.T m none n = some y at hy
  unfold turnF at hy
  by_cases e : n = m
  · rw [if_pos e] at hy; cases hy
  · rw [if_neg e] at hy; exact k.t n y hy, k.d⟩
theorem HearG.Wf.setD {h : HearG} (k : h.Wf) (x : DiV) : (h.setD x).Wf := ⟨k.t, fun n y hy => by
  change turnF h.D x.1 (some x) n = some y at hy
  unfold turnF at hy
  by_cases e : n = (x.1 : Int)
  · rw [if_pos e] at hy; cases hy; exact e.symm
  · rw [if_neg e] at hy; exact k.d n y hy⟩
theorem HearG.Wf.top {h : HearG} (k : h.Wf) (m : Int) : (h.top m).Wf := ⟨k.t, k.d⟩
theorem HearG.Wf.tx {h : HearG} (k : h.Wf) (x : TxV) : (hearTx h x).Wf := by
  unfold hearTx
  split
  · exact k.top _
  · exact (k.top _).setT x
theorem HearG.Wf.di {h : HearG} (k : h.Wf) (x : DiV) : (hearDi h x).Wf := by
  unfold hearDi
  split
  · split
    · exact k.setD x
    · exact k
  · exact k.setD x
theorem HearG.Wf.chg {h : HearG} (k : h.Wf) (p a : Nat) : (hearChg h p a).Wf := by
  unfold hearChg
  split
  · exact k
  · exact k.setD _
theorem HearG.Wf.txs {h : HearG} (k : h.Wf) (L : List TxV) : (L.foldl hearTx h).Wf := by
  induction L generalizing h with
  | nil => exact k
  | cons x L ih => exact ih (k.tx x)
theorem HearG.Wf.dis {h : HearG} (k : h.Wf) (L : List DiV) : (L.foldl hearDi h).Wf := by
  induction L generalizing h with
  | nil => exact k
  | cons x L ih => exact ih (k.di x)

theorem knownF_tx {h : HearG} (k : h.Wf) (n : Int) : (knownF h n).1 = n := by
  unfold knownF
  cases e : h.T n with
  | none => rfl
  | some x => exact k.t n x e

theorem HearG.Wf.own {h : HearG} (k : h.Wf) (a : Nat) (r : RecV) : (hearOwn h a r).Wf := by
  unfold hearOwn
  split
  · exact k
  · split
    · exact (k.txs _).dis _
    · split
      · exact k.delT _
      · exact k.setT _
theorem HearG.Wf.hear {h : HearG} (k : h.Wf) (a : Nat) (r : RecV) : (hearRec h a r).Wf := by
  unfold hearRec
  have h1 : ({ h with recs := h.recs + 1, most := max h.most r.tx } : HearG).Wf := ⟨k.t, k.d⟩
  split
  · exact (h1.own a r).chg _ _
  · exact h1.own a r
theorem HearG.Wf.all {h : HearG} (k : h.Wf) (L : List (Nat × RecV)) : (hearAll h L).Wf := by
  induction L generalizing h with
  | nil => exact k
  | cons x L ih => exact ih (k.hear x.1 x.2)

def redoL (e : Nat) : List DiV → Nat
  | [] => e
  | x :: l => l.foldl (fun m y => if y.2 < m then y.2 else m) x.2

end Go.Proofs.YtgkfdakieebnmaaGreat

namespace Go.Proofs.YtgkfdakieebnmaaGreat
open Go.RowKit Go.Sort

theorem hida {p : Prop} (h : p) : Hid p := h

theorem aiKeyed : Maps.Keyed Tryz.prog 3 := Maps.int_keyed (q := .i64) Tryz.underlying3
def aikey (n : Int) : Lit := .int .i64 n
theorem aikey_key {n : Int} (h1 : -9223372036854775808 ≤ n) (h2 : n ≤ 9223372036854775807) : keyOf Tryz.prog 3 (.int .i64 n) = some (aikey n) := Maps.keyOf_int_mk Tryz.underlying3 (WalkArith.wf_i64 (by omega))
theorem aikey_ne {a b : Int} (h : a ≠ b) : aikey a ≠ aikey b := fun e => h (by simpa [aikey] using e)
theorem aikey_lit (n : Int) : WideAt.IsKeyLit (aikey n) := by simp [aikey, WideAt.IsKeyLit]

def apkey (n : Int) : Lit := .int .u32 n
theorem apkey_key {n : Nat} (h : n < 4294967296) : keyOf Tryz.prog 49 (.int .u32 n) = some (apkey n) := Maps.keyOf_int_mk Tryz.underlying49 (keyL_wf h)
theorem apkey_ne {a b : Int} (h : a ≠ b) : apkey a ≠ apkey b := fun e => h (by simpa [apkey] using e)
theorem apkey_lit (n : Int) : WideAt.IsKeyLit (apkey n) := by simp [apkey, WideAt.IsKeyLit]

def txVal (x : TxV) : Value := .agg #[.int .i64 x.1, .int .i64 x.2.1, .int .u64 x.2.2.1, .int .u64 x.2.2.2]
def zeroTx : Value := .agg #[.int .i64 0, .int .i64 0, .int .u64 0, .int .u64 0]
def zeroLs : Value := .int .u64 0

def hearCells (tb db : Nat) (g : HearG) : Array Value := #[.map (some tb), .map (some db), .int .i64 g.most, .int .i64 g.recs]

structure HearIn (w : World) (hb tb db : Nat) (TD DD : DataW Value) (nt nd N : Nat) (g : HearG) : Prop where
  blk : Blk w hb (hearCells tb db g) 107
  tm : MapV 3 w tb nt TD
  dm : MapV 49 w db nd DD
  tno : ∀ n, g.T n = none → Maps.has TD (aikey n) = false
  tyes : ∀ n x, g.T n = some x → Maps.has TD (aikey n) = true ∧ getV TD (aikey n) zeroTx = txVal x ∧ 0 ≤ n ∧ n ≤ 2147483647
  tkeys : ∀ l, Maps.has TD l = true → ∃ n, l = aikey n ∧ g.T n ≠ none
  dno : ∀ n, g.D n = none → Maps.has DD (apkey n) = false
  dyes : ∀ n x, g.D n = some x → Maps.has DD (apkey n) = true ∧ getV DD (apkey n) zeroLs = .int .u64 x.2 ∧ 0 ≤ n ∧ n < 4294967296
  dkeys : ∀ l, Maps.has DD l = true → ∃ n, l = apkey n ∧ g.D n ≠ none
  ne : tb ≠ db
  nt : nt ≤ N
  nd : nd ≤ N

def HearAt (w : World) (hb tb db N : Nat) (g : HearG) : Prop := ∃ TD DD nt nd, HearIn w hb tb db TD DD nt nd N g

def HB (hb tb db : Nat) : Nat → Prop := fun k => k = hb ∨ k = tb ∨ k = db

section
variable {w w' : World} {hb tb db N nt nd : Nat} {TD DD : DataW Value} {g : HearG}

theorem HearIn.nh (h : HearIn w hb tb db TD DD nt nd N g) : tb ≠ hb ∧ db ≠ hb := by
  constructor
  · rintro rfl
    obtain ⟨es, c, e⟩ := h.tm.isMap
    have := h.blk
    unfold Blk at this
    rw [e] at this
    cases this
  · rintro rfl
    obtain ⟨es, c, e⟩ := h.dm.isMap
    have := h.blk
    unfold Blk at this
    rw [e] at this
    cases this

theorem HearIn.same (h : HearIn w hb tb db TD DD nt nd N g) (k : ∀ i, HB hb tb db i → w'.heap[i]? = w.heap[i]?) : HearIn w' hb tb db TD DD nt nd N g :=
  ⟨h.blk.same (k _ (.inl rfl)), h.tm.same (k _ (.inr (.inl rfl))), h.dm.same (k _ (.inr (.inr rfl))), h.tno, h.tyes, h.tkeys, h.dno, h.dyes, h.dkeys, h.ne, h.nt, h.nd⟩

theorem HearAt.same (h : HearAt w hb tb db N g) (k : ∀ i, HB hb tb db i → w'.heap[i]? = w.heap[i]?) : HearAt w' hb tb db N g := by
  obtain ⟨TD, DD, nt, nd, h⟩ := h
  exact ⟨TD, DD, nt, nd, h.same k⟩

theorem HearAt.lt (h : HearAt w hb tb db N g) : ∀ i, HB hb tb db i → i < w.heap.size := by
  obtain ⟨TD, DD, nt, nd, h⟩ := h
  rintro i (rfl | rfl | rfl)
  · exact h.blk.lt
  · exact h.tm.lt
  · exact h.dm.lt

theorem HearAt.below (h : HearAt w hb tb db N g) (k : Below w.heap.size w w') : HearAt w' hb tb db N g := h.same fun i hi => k.block i (h.lt i hi)

theorem HearAt.more (h : HearAt w hb tb db N g) {M : Nat} (k : N ≤ M) : HearAt w hb tb db M g := by
  obtain ⟨TD, DD, nt, nd, h⟩ := h
  exact ⟨TD, DD, nt, nd, h.blk, h.tm, h.dm, h.tno, h.tyes, h.tkeys, h.dno, h.dyes, h.dkeys, h.ne, Nat.le_trans h.nt k, Nat.le_trans h.nd k⟩

theorem HearAt.cells (h : HearAt w hb tb db N g) {g' : HearG} (hb' : Blk w' hb (hearCells tb db g') 107) (eT : g'.T = g.T) (eD : g'.D = g.D) (k : Kept (fun i => i = hb) w w') : HearAt w' hb tb db N g' := by
  obtain ⟨TD, DD, nt, nd, h⟩ := h
  have n := h.nh
  exact ⟨TD, DD, nt, nd, hb', h.tm.same (k.block _ h.tm.lt n.1), h.dm.same (k.block _ h.dm.lt n.2), by rw [eT]; exact h.tno, by rw [eT]; exact h.tyes, by rw [eT]; exact h.tkeys, by rw [eD]; exact h.dno, by rw [eD]; exact h.dyes, by rw [eD]; exact h.dkeys, h.ne, h.nt, h.nd⟩

theorem size_put_le {D : DataW Value} (h : Maps.Tidy D) (l : Lit) (v : DataW Value) : Maps.size (D.put l v) ≤ Maps.size D + 1 := by
  rw [Maps.size_put h]
  split <;> omega

theorem HearAt.putT (h : HearAt w hb tb db N g) (x : TxV) (h1 : 0 ≤ x.1) (h2 : x.1 ≤ 2147483647) (hN : N ≤ 900000) :
    ∃ u : World → World, ∀ V : World, (∀ i, HB hb tb db i → V.heap[i]? = w.heap[i]?) → (Instr.mapUpdate 104 (.map (some tb)) (.int .i64 x.1) (txVal x)).run Tryz.prog V = .ok () (u V) ∧ HearAt (u V) hb tb db (N + 1) (g.setT x) ∧ Kept (fun k => k = tb) V (u V) := by
  obtain ⟨TD, DD, nt, nd, h⟩ := h
  obtain ⟨u, hu⟩ := put_ex 3 104 161 tb (.int .i64 x.1) (txVal x)
  refine ⟨u, fun V hV => ?_⟩
  have hv := h.same hV
  obtain ⟨hrun, hm, ht⟩ := hu V nt TD (aikey x.1) hv.tm aiKeyed Tryz.underlying104 (by have := h.nt; omega) (aikey_key (by omega) (by omega))
  have hk : Kept (fun k => k = tb) V (u V) := mapTurned_kept ht rfl
  have hD := hv.tm.tidy aiKeyed
  have hn := h.nh
  refine ⟨hrun, ⟨_, DD, _, nd, hv.blk.same (hk.block _ hv.blk.lt (fun e => hn.1 e.symm)), hm, hv.dm.same (hk.block _ hv.dm.lt (fun e => h.ne e.symm)), fun n hn => ?_, fun n y hn => ?_, fun l hl => ?_, h.dno, h.dyes, h.dkeys, h.ne, ?_, by have := h.nd; omega⟩, hk⟩
  · change turnF g.T x.1 (some x) n = none at hn
    unfold turnF at hn
    by_cases e : n = x.1
    · rw [if_pos e] at hn; cases hn
    · rw [if_neg e] at hn
      rw [Maps.has_put_other (aikey_ne e)]
      exact h.tno n hn
  · change turnF g.T x.1 (some x) n = some y at hn
    unfold turnF at hn
    by_cases e : n = x.1
    · rw [if_pos e] at hn
      cases hn
      subst e
      exact ⟨Maps.has_put_same hD.isMap (aikey_lit _) _, getV_put_same hD.isMap (aikey_lit _) _ _, h1, h2⟩
    · rw [if_neg e] at hn
      have := h.tyes n y hn
      exact ⟨by rw [Maps.has_put_other (aikey_ne e)]; exact this.1, by rw [getV_put_other (aikey_ne e)]; exact this.2.1, this.2.2⟩
  · by_cases e : l = aikey x.1
    · exact ⟨x.1, e, by show turnF g.T x.1 (some x) x.1 ≠ none; unfold turnF; rw [if_pos rfl]; exact Option.some_ne_none _⟩
    · rw [Maps.has_put_other e] at hl
      obtain ⟨n, rfl, hT⟩ := h.tkeys l hl
      refine ⟨n, rfl, ?_⟩
      show turnF g.T x.1 (some x) n ≠ none
      unfold turnF
      split
      · exact Option.some_ne_none _
      · exact hT
  · have := size_put_le hD (aikey x.1) (.held (txVal x))
    have := h.tm.2
    have := h.nt
    omega

theorem HearAt.delT (h : HearAt w hb tb db N g) (n0 : Int) (h1 : 0 ≤ n0) (h2 : n0 ≤ 2147483647) (ty : TypeId) :
    ∃ u : World → World, ∀ V : World, (∀ i, HB hb tb db i → V.heap[i]? = w.heap[i]?) → (Builtin.delete_ #[104, 3] ty #[.map (some tb), .int .i64 n0]).run Tryz.prog V = .ok (.tuple #[]) (u V) ∧ HearAt (u V) hb tb db N (g.delT n0) ∧ Kept (fun k => k = tb) V (u V) := by
  obtain ⟨TD, DD, nt, nd, h⟩ := h
  obtain ⟨u, hu⟩ := del_ex 3 104 161 tb (.int .i64 n0) ty
  refine ⟨u, fun V hV => ?_⟩
  have hv := h.same hV
  obtain ⟨hrun, hm, ht⟩ := hu V nt TD (aikey n0) hv.tm aiKeyed Tryz.underlying104 (aikey_key (by omega) (by omega))
  have hk : Kept (fun k => k = tb) V (u V) := mapTurned_kept ht rfl
  have hn := h.nh
  refine ⟨hrun, ⟨_, DD, _, nd, hv.blk.same (hk.block _ hv.blk.lt (fun e => hn.1 e.symm)), hm, hv.dm.same (hk.block _ hv.dm.lt (fun e => h.ne e.symm)), fun n hn => ?_, fun n y hn => ?_, fun l hl => ?_, h.dno, h.dyes, h.dkeys, h.ne, ?_, h.nd⟩, hk⟩
  · change turnF g.T n0 none n = none at hn
    unfold turnF at hn
    by_cases e : n = n0
    · subst e; exact Maps.has_del_same
    · rw [if_neg e] at hn
      rw [Maps.has_del_other (aikey_ne e)]
      exact h.tno n hn
  · change turnF g.T n0 none n = some y at hn
    unfold turnF at hn
    by_cases e : n = n0
    · rw [if_pos e] at hn; cases hn
    · rw [if_neg e] at hn
      have := h.tyes n y hn
      exact ⟨by rw [Maps.has_del_other (aikey_ne e)]; exact this.1, by rw [getV_del_other (aikey_ne e)]; exact this.2.1, this.2.2⟩
  · by_cases e : l = aikey n0
    · rw [e, Maps.has_del_same] at hl; cases hl
    · rw [Maps.has_del_other e] at hl
      obtain ⟨n, rfl, hT⟩ := h.tkeys l hl
      refine ⟨n, rfl, ?_⟩
      show turnF g.T n0 none n ≠ none
      unfold turnF
      rw [if_neg (fun q => e (by rw [q]))]
      exact hT
  · have := Maps.size_del (hv.tm.tidy aiKeyed) (k := aikey n0)
    have := h.tm.2
    have := h.nt
    omega

theorem HearAt.putD (h : HearAt w hb tb db N g) (x : DiV) (h2 : x.1 < 4294967296) (hN : N ≤ 900000) :
    ∃ u : World → World, ∀ V : World, (∀ i, HB hb tb db i → V.heap[i]? = w.heap[i]?) → (Instr.mapUpdate 105 (.map (some db)) (.int .u32 x.1) (.int .u64 x.2)).run Tryz.prog V = .ok () (u V) ∧ HearAt (u V) hb tb db (N + 1) (g.setD x) ∧ Kept (fun k => k = db) V (u V) := by
  obtain ⟨TD, DD, nt, nd, h⟩ := h
  obtain ⟨u, hu⟩ := put_ex 49 105 41 db (.int .u32 x.1) (.int .u64 x.2)
  refine ⟨u, fun V hV => ?_⟩
  have hv := h.same hV
  obtain ⟨hrun, hm, ht⟩ := hu V nd DD (apkey x.1) hv.dm pageKeyed Tryz.underlying105 (by have := h.nd; omega) (apkey_key h2)
  have hk : Kept (fun k => k = db) V (u V) := mapTurned_kept ht rfl
  have hD := hv.dm.tidy pageKeyed
  have hn := h.nh
  refine ⟨hrun, ⟨TD, _, nt, _, hv.blk.same (hk.block _ hv.blk.lt (fun e => hn.2 e.symm)), hv.tm.same (hk.block _ hv.tm.lt h.ne), hm, h.tno, h.tyes, h.tkeys, fun n hn => ?_, fun n y hn => ?_, fun l hl => ?_, h.ne, by have := h.nt; omega, ?_⟩, hk⟩
  · change turnF g.D x.1 (some x) n = none at hn
    unfold turnF at hn
    by_cases e : n = (x.1 : Int)
    · rw [if_pos e] at hn; cases hn
    · rw [if_neg e] at hn
      rw [Maps.has_put_other (apkey_ne e)]
      exact h.dno n hn
  · change turnF g.D x.1 (some x) n = some y at hn
    unfold turnF at hn
    by_cases e : n = (x.1 : Int)
    · rw [if_pos e] at hn
      cases hn
      subst e
      exact ⟨Maps.has_put_same hD.isMap (apkey_lit _) _, getV_put_same hD.isMap (apkey_lit _) _ _, by omega, by omega⟩
    · rw [if_neg e] at hn
      have := h.dyes n y hn
      exact ⟨by rw [Maps.has_put_other (apkey_ne e)]; exact this.1, by rw [getV_put_other (apkey_ne e)]; exact this.2.1, this.2.2⟩
  · by_cases e : l = apkey x.1
    · exact ⟨x.1, e, by show turnF g.D x.1 (some x) x.1 ≠ none; unfold turnF; rw [if_pos rfl]; exact Option.some_ne_none _⟩
    · rw [Maps.has_put_other e] at hl
      obtain ⟨n, rfl, hT⟩ := h.dkeys l hl
      refine ⟨n, rfl, ?_⟩
      show turnF g.D x.1 (some x) n ≠ none
      unfold turnF
      split
      · exact Option.some_ne_none _
      · exact hT
  · have := size_put_le hD (apkey x.1) (.held (.int .u64 x.2))
    have := h.dm.2
    have := h.nd
    omega

theorem HearAt.lookT (h : HearAt w hb tb db N g) (n : Int) (h1 : -9223372036854775808 ≤ n) (h2 : n ≤ 9223372036854775807) :
    (Instr.lookup 104 (.map (some tb)) (.int .i64 n) true).run Tryz.prog w = .ok (.tuple #[match g.T n with | some x => txVal x | none => zeroTx, .bool (g.T n).isSome]) w := by
  obtain ⟨TD, DD, nt, nd, h⟩ := h
  have hr := h.tm.lookOk (e := 161) aiKeyed Tryz.underlying104 (z := zeroTx) (Tryz.zeroValue161 w) (aikey_key h1 h2)
  rw [hr]
  cases e : g.T n with
  | none => rw [h.tno n e, getV_none (h.tno n e)]; rfl
  | some x => rw [(h.tyes n x e).1, (h.tyes n x e).2.1]; rfl

theorem HearAt.lookD (h : HearAt w hb tb db N g) (p : Nat) (h2 : p < 4294967296) :
    (Instr.lookup 105 (.map (some db)) (.int .u32 p) true).run Tryz.prog w = .ok (.tuple #[.int .u64 (match g.D p with | some x => x.2 | none => 0 : Nat), .bool (g.D p).isSome]) w := by
  obtain ⟨TD, DD, nt, nd, h⟩ := h
  have hr := h.dm.lookOk (e := 41) pageKeyed Tryz.underlying105 (z := zeroLs) (Tryz.zeroValue41 w) (apkey_key h2)
  rw [hr]
  cases e : g.D p with
  | none => rw [show apkey (p : Int) = apkey ((p : Nat) : Int) from rfl, h.dno p e, getV_none (h.dno p e)]; rfl
  | some x => rw [(h.dyes p x e).1, (h.dyes p x e).2.1]; rfl

end

end Go.Proofs.YtgkfdakieebnmaaGreat
