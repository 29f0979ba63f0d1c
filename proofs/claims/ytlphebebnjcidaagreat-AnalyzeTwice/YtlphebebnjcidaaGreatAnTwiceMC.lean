/-
  A checkpoint of what was heard says what was heard.
-/
import Derived.Test.YtlphebebnjcidaaGreatAnFindsMC
set_option linter.unusedVariables false
set_option linter.unusedSimpArgs false
namespace Go.Proofs.YtlphebebnjcidaaGreat
open Go.RowKit Go.Sort Go.Shelf Go.Lib

structure HearG.Num (h : HearG) : Prop where
  pos : 0 ≤ h.most
  top : ∀ n x, h.T n = some x → x.1 ≤ h.most
  tw : ∀ n x, h.T n = some x → x.2.2.1 < 18446744073709551616 ∧ x.2.2.2 < 18446744073709551616
  dw : ∀ n x, h.D n = some x → x.1 < 4294967296 ∧ x.2 < 18446744073709551616

theorem num0 : hear0.Num := ⟨Int.le_refl _, fun _ _ h => (by cases h), fun _ _ h => (by cases h), fun _ _ h => (by cases h)⟩

theorem HearG.Num.topT {h : HearG} (k : h.Num) (n : Int) : (h.top n).Num :=
  ⟨by have := k.pos; show 0 ≤ max h.most n; omega, fun m x hx => by have := k.top m x hx; show x.1 ≤ max h.most n; omega, k.tw, k.dw⟩
theorem HearG.Num.setT {h : HearG} (k : h.Num) (x : TxV) (h1 : x.1 ≤ h.most) (h2 : x.2.2.1 < 18446744073709551616 ∧ x.2.2.2 < 18446744073709551616) : (h.setT x).Num := by
  have e : ∀ n y, (h.setT x).T n = some y → y = x ∨ h.T n = some y := fun n y hy => by
    change turnF h.T x.1 (some x) n = some y at hy
    unfold turnF at hy
    split at hy
    · exact .inl (Option.some.inj hy).symm
    · exact .inr hy
  refine ⟨k.pos, fun n y hy => ?_, fun n y hy => ?_, k.dw⟩
  · rcases e n y hy with q | q
    · rw [q]; exact h1
    · exact k.top n y q
  · rcases e n y hy with q | q
    · rw [q]; exact h2
    · exact k.tw n y q
theorem HearG.Num.delT {h : HearG} (k : h.Num) (m : Int) : (h.delT m).Num := by
  have e : ∀ n y, (h.delT m).T n = some y → h.T n = some y := fun n y hy => by
    change turnF h.T m none n = some y at hy
    unfold turnF at hy
    split at hy
    · cases hy
    · exact hy
  exact ⟨k.pos, fun n y hy => k.top n y (e n y hy), fun n y hy => k.tw n y (e n y hy), k.dw⟩
theorem HearG.Num.setD {h : HearG} (k : h.Num) (x : DiV) (h2 : x.1 < 4294967296 ∧ x.2 < 18446744073709551616) : (h.setD x).Num := by
  refine ⟨k.pos, k.top, k.tw, fun n y hy => ?_⟩
  change turnF h.D x.1 (some x) n = some y at hy
  unfold turnF at hy
  split at hy
  · rw [← Option.some.inj hy]; exact h2
  · exact k.dw n y hy
theorem HearG.Num.tx {h : HearG} (k : h.Num) (x : TxV) (h2 : x.2.2.1 < 18446744073709551616 ∧ x.2.2.2 < 18446744073709551616) : (hearTx h x).Num := by
  unfold hearTx
  split
  · exact k.topT _
  · exact (k.topT _).setT x (by show x.1 ≤ max h.most x.1; omega) h2
theorem HearG.Num.di {h : HearG} (k : h.Num) (x : DiV) (h2 : x.1 < 4294967296 ∧ x.2 < 18446744073709551616) : (hearDi h x).Num := by
  unfold hearDi
  split
  · split
    · exact k.setD x h2
    · exact k
  · exact k.setD x h2
theorem HearG.Num.chg {h : HearG} (k : h.Num) (p a : Nat) (h2 : p < 4294967296 ∧ a < 18446744073709551616) : (hearChg h p a).Num := by
  unfold hearChg
  split
  · exact k
  · exact k.setD _ h2
theorem HearG.Num.txs {h : HearG} (k : h.Num) (L : List TxV) (hl : ∀ x ∈ L, x.2.2.1 < 18446744073709551616 ∧ x.2.2.2 < 18446744073709551616) : (L.foldl hearTx h).Num := by
  induction L generalizing h with
  | nil => exact k
  | cons x L ih => exact ih (k.tx x (hl x (List.mem_cons_self ..))) fun y hy => hl y (List.mem_cons_of_mem _ hy)
theorem HearG.Num.dis {h : HearG} (k : h.Num) (L : List DiV) (hl : ∀ x ∈ L, x.1 < 4294967296 ∧ x.2 < 18446744073709551616) : (L.foldl hearDi h).Num := by
  induction L generalizing h with
  | nil => exact k
  | cons x L ih => exact ih (k.di x (hl x (List.mem_cons_self ..))) fun y hy => hl y (List.mem_cons_of_mem _ hy)

theorem HearG.Num.hear {h : HearG} (k : h.Num) (wf : h.Wf) (a : Nat) {r : RecV} (ha : a < 18446744073709551616) (hw : r.Wide) (hn : r.next < 18446744073709551616) (hp : r.page < 4294967296) : (hearRec h a r).Num := by
  obtain ⟨h1, hh1⟩ : ∃ h1 : HearG, h1 = { h with recs := h.recs + 1, most := max h.most r.tx } := ⟨_, rfl⟩
  have k1 : h1.Num := by
    rw [hh1]
    exact ⟨by have := k.pos; show 0 ≤ max h.most r.tx; omega, fun m x hx => by have := k.top m x hx; show x.1 ≤ max h.most r.tx; omega, k.tw, k.dw⟩
  have wf1 : h1.Wf := by rw [hh1]; exact ⟨wf.t, wf.d⟩
  have t1 : r.tx ≤ h1.most := by rw [hh1]; show r.tx ≤ max h.most r.tx; omega
  have k2 : (hearOwn h1 a r).Num := by
    unfold hearOwn
    split
    · exact k1
    · split
      · refine (k1.txs _ fun x hx => ?_).dis _ fun x hx => ?_
        · obtain ⟨i, hi, rfl⟩ := List.getElem_of_mem hx; exact hw.txs i hi
        · obtain ⟨i, hi, rfl⟩ := List.getElem_of_mem hx; exact hw.dirty i hi
      · split
        · exact k1.delT _
        · have hkn : (knownF h1 r.tx).2.2.2 < 18446744073709551616 := by
            unfold knownF
            cases e : h1.T r.tx with
            | none => show (0 : Nat) < _; omega
            | some x => exact (k1.tw _ x e).2
          refine k1.setT _ ?_ ⟨ha, ?_⟩
          · show (knownF h1 r.tx).1 ≤ h1.most
            rw [knownF_tx wf1]
            exact t1
          · show (if r.kind = 1 then a else if r.kind = 2 ∨ r.kind = 3 then r.next else (knownF h1 r.tx).2.2.2) < _
            split
            · exact ha
            · split
              · exact hn
              · exact hkn
  have e : hearRec h a r = if r.kind = 1 ∨ r.kind = 2 then hearChg (hearOwn h1 a r) r.page a else hearOwn h1 a r := by rw [hh1]; rfl
  rw [e]
  split
  · exact k2.chg _ _ ⟨hp, ha⟩
  · exact k2

theorem heardTo_num (rs : List ByteArray) (R : Nat → RecV) (i0 k : Nat) (h : ∀ i, i < i0 + k → placeOf rs i < 18446744073709551616 ∧ (R i).Wide ∧ (R i).next < 18446744073709551616 ∧ (R i).page < 4294967296) : (heardTo rs R i0 k).Num := by
  induction k with
  | zero => exact num0
  | succ k ih =>
    obtain ⟨h1, h2, h3, h4⟩ := h (i0 + k) (by omega)
    exact (ih fun i hi => h i (by omega)).hear (heardTo_wf _ _ _ _) _ h1 h2 h3 h4

theorem fold_T (L : List TxV) : ∀ (h : HearG), (L.Pairwise fun a b => keyT a < keyT b) → (∀ x ∈ L, h.T x.1 = none) → (∀ n, (L.foldl hearTx h).T n = (L.find? fun x => x.1 == n).or (h.T n)) ∧ (L.foldl hearTx h).D = h.D ∧ (L.foldl hearTx h).recs = h.recs := by
  induction L with
  | nil => intro h _ _; exact ⟨fun n => rfl, rfl, rfl⟩
  | cons x L ih =>
    intro h hs hn
    rw [List.pairwise_cons] at hs
    have e : hearTx h x = (h.top x.1).setT x := by
      unfold hearTx
      rw [hn x (List.mem_cons_self ..)]
      rfl
    have eT : (hearTx h x).T = turnF h.T x.1 (some x) := by rw [e]; rfl
    obtain ⟨h1, h2, h3⟩ := ih (hearTx h x) hs.2 fun y hy => by
      rw [eT]
      unfold turnF
      rw [if_neg (by have : x.1 < y.1 := hs.1 y hy; omega)]
      exact hn y (List.mem_cons_of_mem _ hy)
    refine ⟨fun n => ?_, ?_, ?_⟩
    · rw [List.foldl_cons, h1, eT, List.find?_cons]
      unfold turnF
      by_cases hq : n = x.1
      · have hf : L.find? (fun y => y.1 == n) = none := List.find?_eq_none.2 fun y hy => by
          have : x.1 < y.1 := hs.1 y hy
          simp
          omega
        rw [hf, if_pos hq, show (x.1 == n) = true by simp [hq]]
        rfl
      · rw [if_neg hq, show (x.1 == n) = false by simp; omega]
    · rw [List.foldl_cons, h2, e]; rfl
    · rw [List.foldl_cons, h3, e]; rfl

theorem fold_D (L : List DiV) : ∀ (h : HearG), (L.Pairwise fun a b => keyD a < keyD b) → (∀ x ∈ L, h.D x.1 = none) → (∀ n, (L.foldl hearDi h).D n = (L.find? fun x => (x.1 : Int) == n).or (h.D n)) ∧ (L.foldl hearDi h).T = h.T ∧ (L.foldl hearDi h).recs = h.recs ∧ (L.foldl hearDi h).most = h.most := by
  induction L with
  | nil => intro h _ _; exact ⟨fun n => rfl, rfl, rfl, rfl⟩
  | cons x L ih =>
    intro h hs hn
    rw [List.pairwise_cons] at hs
    have e : hearDi h x = h.setD x := by
      unfold hearDi
      rw [hn x (List.mem_cons_self ..)]
    have eT : (hearDi h x).D = turnF h.D x.1 (some x) := by rw [e]; rfl
    obtain ⟨h1, h2, h3, h4⟩ := ih (hearDi h x) hs.2 fun y hy => by
      rw [eT]
      unfold turnF
      rw [if_neg (by have : (x.1 : Int) < (y.1 : Int) := hs.1 y hy; omega)]
      exact hn y (List.mem_cons_of_mem _ hy)
    refine ⟨fun n => ?_, ?_, ?_, ?_⟩
    · rw [List.foldl_cons, h1, eT, List.find?_cons]
      unfold turnF
      by_cases hq : n = (x.1 : Int)
      · have hf : L.find? (fun y => (y.1 : Int) == n) = none := List.find?_eq_none.2 fun y hy => by
          have : (x.1 : Int) < (y.1 : Int) := hs.1 y hy
          simp
          omega
        rw [hf, if_pos hq, show ((x.1 : Int) == n) = true by simp [hq]]
        rfl
      · rw [if_neg hq, show ((x.1 : Int) == n) = false by simp; omega]
    · rw [List.foldl_cons, h2, e]; rfl
    · rw [List.foldl_cons, h3, e]; rfl
    · rw [List.foldl_cons, h4, e]; rfl

theorem fold_top (L : List TxV) : ∀ (h : HearG), (∀ x ∈ L, x.1 ≤ h.most) → (L.foldl hearTx h).most = h.most := by
  induction L with
  | nil => intro h _; rfl
  | cons x L ih =>
    intro h hn
    have e : (hearTx h x).most = h.most := by
      have := hn x (List.mem_cons_self ..)
      unfold hearTx
      split
      · show max h.most x.1 = h.most; omega
      · show max h.most x.1 = h.most; omega
    rw [List.foldl_cons, ih (hearTx h x) fun y hy => by rw [e]; exact hn y (List.mem_cons_of_mem _ hy), e]

theorem find_T {L : List TxV} {F : Int → Option TxV} (hc : Can keyT L F) (n : Int) : L.find? (fun x => x.1 == n) = F n := by
  cases e : L.find? (fun x => x.1 == n) with
  | none =>
    have hn := List.find?_eq_none.1 e
    cases q : F n with
    | none => rfl
    | some y =>
      obtain ⟨h1, h2⟩ := (hc.mem _ y).2 q
      have h3 : y.1 = n := h2
      exact absurd (show (y.1 == n) = true by simp [h3]) (hn y h1)
  | some x =>
    have h1 := List.mem_of_find?_eq_some e
    have h2 := List.find?_some e
    exact ((hc.mem _ x).1 ⟨h1, by show x.1 = n; simpa using h2⟩).symm
theorem find_D {L : List DiV} {F : Int → Option DiV} (hc : Can keyD L F) (n : Int) : L.find? (fun x => (x.1 : Int) == n) = F n := by
  cases e : L.find? (fun x => (x.1 : Int) == n) with
  | none =>
    have hn := List.find?_eq_none.1 e
    cases q : F n with
    | none => rfl
    | some y =>
      obtain ⟨h1, h2⟩ := (hc.mem _ y).2 q
      have h3 : (y.1 : Int) = n := h2
      exact absurd (show ((y.1 : Int) == n) = true by simp [h3]) (hn y h1)
  | some x =>
    have h1 := List.mem_of_find?_eq_some e
    have h2 := List.find?_some e
    exact ((hc.mem _ x).1 ⟨h1, by show (x.1 : Int) = n; simpa using h2⟩).symm

def bgV : RecV := ⟨7, 0, 0, 0, 0, ⟨0, 0, ⟨#[]⟩, ⟨#[]⟩⟩, 0, 0, ⟨#[]⟩, 0, 0, false, [], []⟩
def ckV (m : Int) (L : List TxV) (M : List DiV) : RecV := ⟨8, m, 0, 0, 0, ⟨0, 0, ⟨#[]⟩, ⟨#[]⟩⟩, 0, 0, ⟨#[]⟩, 0, 0, false, L, M⟩

theorem ck_heard {h : HearG} (k : h.Num) {L : List TxV} {M : List DiV} (hT : Can keyT L h.T) (hD : Can keyD M h.D) (p0 p1 : Nat) :
    (∀ n, (hearRec (hearRec hear0 p0 bgV) p1 (ckV h.most L M)).T n = h.T n) ∧ (∀ n, (hearRec (hearRec hear0 p0 bgV) p1 (ckV h.most L M)).D n = h.D n) ∧ (hearRec (hearRec hear0 p0 bgV) p1 (ckV h.most L M)).most = h.most ∧ (hearRec (hearRec hear0 p0 bgV) p1 (ckV h.most L M)).recs = 2 := by
  have e : hearRec (hearRec hear0 p0 bgV) p1 (ckV h.most L M) = M.foldl hearDi (L.foldl hearTx ⟨fun _ => none, fun _ => none, max (max 0 0) h.most, 2⟩) := rfl
  rw [e]
  have hm : max (max 0 0) h.most = h.most := by have := k.pos; omega
  rw [hm]
  obtain ⟨a1, a2, a3⟩ := fold_T L ⟨fun _ => none, fun _ => none, h.most, 2⟩ hT.srt fun _ _ => rfl
  have a4 := fold_top L ⟨fun _ => none, fun _ => none, h.most, 2⟩ fun x hx => k.top _ x (hT.at hx)
  obtain ⟨b1, b2, b3, b4⟩ := fold_D M (L.foldl hearTx ⟨fun _ => none, fun _ => none, h.most, 2⟩) hD.srt fun x _ => by rw [a2]
  refine ⟨fun n => ?_, fun n => ?_, ?_, ?_⟩
  · rw [b2, a1, find_T hT]; cases h.T n <;> rfl
  · rw [b1, a2, find_D hD]; cases h.D n <;> rfl
  · rw [b4, a4]
  · rw [b3, a3]

theorem redo_ne {e e' : Nat} {M : List DiV} (h : M ≠ []) : redoL e M = redoL e' M := by
  cases M with
  | nil => exact absurd rfl h
  | cons x l => rfl

theorem most_tx (h : HearG) (x : TxV) : (hearTx h x).most = max h.most x.1 := by
  unfold hearTx
  split <;> rfl
theorem most_di (h : HearG) (x : DiV) : (hearDi h x).most = h.most := by
  unfold hearDi
  split
  · split <;> rfl
  · rfl
theorem most_txs (L : List TxV) (B : Int) : ∀ (h : HearG), h.most ≤ B → (∀ x ∈ L, x.1 ≤ B) → (L.foldl hearTx h).most ≤ B := by
  induction L with
  | nil => intro h k _; exact k
  | cons x L ih =>
    intro h k hl
    refine ih (hearTx h x) ?_ fun y hy => hl y (List.mem_cons_of_mem _ hy)
    rw [most_tx]
    have := hl x (List.mem_cons_self ..)
    omega
theorem most_dis (L : List DiV) : ∀ (h : HearG), (L.foldl hearDi h).most = h.most := by
  induction L with
  | nil => intro h; rfl
  | cons x L ih => intro h; rw [List.foldl_cons, ih, most_di]
theorem most_own (h : HearG) (a : Nat) (r : RecV) (B : Int) (k : h.most ≤ B) (hl : ∀ x ∈ r.txs, x.1 ≤ B) : (hearOwn h a r).most ≤ B := by
  unfold hearOwn
  split
  · exact k
  · split
    · rw [most_dis]; exact most_txs _ B h k hl
    · split <;> exact k
theorem most_rec (h : HearG) (a : Nat) (r : RecV) (B : Int) (k : h.most ≤ B) (k2 : r.tx ≤ B) (hl : ∀ x ∈ r.txs, x.1 ≤ B) : (hearRec h a r).most ≤ B := by
  have h1 := most_own { h with recs := h.recs + 1, most := max h.most r.tx } a r B (by show max h.most r.tx ≤ B; omega) hl
  show (if r.kind = 1 ∨ r.kind = 2 then hearChg (hearOwn { h with recs := h.recs + 1, most := max h.most r.tx } a r) r.page a else hearOwn { h with recs := h.recs + 1, most := max h.most r.tx } a r).most ≤ B
  split
  · unfold hearChg
    split <;> exact h1
  · exact h1
theorem heardTo_most (rs : List ByteArray) (R : Nat → RecV) (i0 k : Nat) (h : ∀ i, i < i0 + k → HrOk (R i)) : (heardTo rs R i0 k).most ≤ 2147483647 := by
  induction k with
  | zero => show (0 : Int) ≤ _; omega
  | succ k ih =>
    have hr := h (i0 + k) (by omega)
    exact most_rec _ _ _ _ (ih fun i hi => h i (by omega)) hr.tx.2 fun x hx => (hr.txs x hx).2

theorem encR_pos (r : RecV) : 1 ≤ (encR r).length := by
  unfold encR
  simp only [List.length_append, putL_length]
  omega

end Go.Proofs.YtlphebebnjcidaaGreat
