/-
  The document's takers as plain functions; they read a record that may be again out of its bytes.
-/
import Derived.Test.YtgkfdakieebnmaaGreatRecReadJ
set_option linter.unusedVariables false
set_option linter.unusedSimpArgs false
namespace Go.Proofs.YtgkfdakieebnmaaGreat
open Go.RowKit Go.Sort

def txStepK (F : Tk (List TxV)) : Tk (List TxV) := bindK F fun L => bindK (numK 4) fun a => bindK (numK 1) fun b => bindK (numK 8) fun c => bindK (numK 8) fun d => retK (L ++ [((a : Int), (b : Int), c, d)])
def diStepK (F : Tk (List DiV)) : Tk (List DiV) := bindK F fun L => bindK (numK 4) fun a => bindK (numK 8) fun b => retK (L ++ [(a, b)])

def xtxsK : Nat → Tk (List TxV)
  | 0 => retK []
  | k + 1 => fun s p e => if (xtxsK k s p e).2.1 ≠ 0 then xtxsK k s p e else txStepK (xtxsK k) s p e
def xdisK : Nat → Tk (List DiV)
  | 0 => retK []
  | k + 1 => fun s p e => if (xdisK k s p e).2.1 ≠ 0 then xdisK k s p e else diStepK (xdisK k) s p e

def xkeyK (R : RecV) : Tk RecV := if keyB R then (bindK (numK 2) fun a => bindK (textK 65535) fun b => bindK (numK 4) fun c => bindK (numK 2) fun d => bindK boolK fun f => retK { R with index := a, key := ⟨b.toArray⟩, rpage := c, rslot := d, live := f }) else retK R
def xlistsK (R : RecV) : Tk RecV := if listsB R then (bindK (numK 2) fun a => bindK (xtxsK a) fun b => bindK (numK 2) fun c => bindK (xdisK c) fun d => retK { R with txs := b, dirty := d }) else retK R
def xrecK : Tk RecV := bindK headK fun a => bindK (nextK a) fun b => bindK (changeK b) fun c => bindK (xkeyK c) fun d => xlistsK d

end Go.Proofs.YtgkfdakieebnmaaGreat

namespace Go.Proofs.YtgkfdakieebnmaaGreat
open Go.RowKit Go.Sort

theorem putL_leB (l : List UInt8) (n : Nat) (h : l.length = n) : putL (le l) n = l := by
  subst h
  refine le_inj (putL_length _ _) ?_
  rw [le_putL, Nat.mod_eq_of_lt (le_lt l)]

theorem part_addB (s : ByteArray) (a m n : Nat) : part s a (m + n) = part s a m ++ part s (a + m) n := by
  unfold part
  rw [List.take_add, List.drop_drop]

def BackK {α : Type} (F : Tk α) (Φ : List UInt8 → α → Prop) : Prop :=
  ∀ (s : ByteArray) (p p' : Nat) (v : α), p ≤ s.size → F s p 0 = (p', 0, v) → p ≤ p' ∧ p' ≤ s.size ∧ Φ (part s p (p' - p)) v

theorem BackK.mono {α : Type} {F : Tk α} {Φ Ψ : List UInt8 → α → Prop} (h : BackK F Φ) (k : ∀ l v, Φ l v → Ψ l v) : BackK F Ψ := fun s p p' v hp hf =>
  have ⟨a, b, c⟩ := h s p p' v hp hf
  ⟨a, b, k _ _ c⟩

theorem BackK.ret {α : Type} (v : α) : BackK (retK v) (fun l u => l = [] ∧ u = v) := by
  intro s p p' u hp h
  simp only [retK, Prod.mk.injEq] at h
  obtain ⟨rfl, _, rfl⟩ := h
  refine ⟨Nat.le_refl _, hp, ?_, rfl⟩
  rw [Nat.sub_self]
  unfold part
  simp

theorem BackK.num (n : Nat) (hn : n ≤ 8) : BackK (numK n) (fun l v => l = putL v n ∧ v < 2 ^ (8 * n)) := by
  intro s p p' v hp h
  have hlt := numF_lt s p 0 n
  unfold numK at h
  rw [h] at hlt
  by_cases hc : s.size < p + n
  · rw [numF_cut n hn hc] at h; simp at h
  · rw [numF_ok n hn (by omega)] at h
    simp only [Prod.mk.injEq, true_and] at h
    obtain ⟨rfl, rfl⟩ := h
    refine ⟨by omega, by omega, ?_, hlt⟩
    rw [show p + n - p = n by omega, putL_leB _ _ (part_length (by omega))]

theorem BackK.text (m : Nat) (hm : m ≤ 65535) : BackK (textK m) (fun l v => l = textB ⟨v.toArray⟩ ∧ v.length ≤ m) := by
  intro s p p' v hp h
  unfold textK at h
  by_cases hc : s.size < p + 2
  · rw [textF_cut m hc] at h; simp at h
  by_cases hx : (m : Int) < (le (part s p 2) : Int)
  · rw [textF_more m (by omega) hx] at h; simp at h
  by_cases hd : s.size < p + 2 + le (part s p 2)
  · rw [textF_cut2 m (by omega) (by omega) hd] at h; simp at h
  rw [textF_ok m (by omega) (by omega)] at h
  simp only [Prod.mk.injEq, true_and] at h
  obtain ⟨rfl, rfl⟩ := h
  have hl : (part s (p + 2) (le (part s p 2))).length = le (part s p 2) := part_length (by omega)
  refine ⟨by omega, by omega, ?_, by omega⟩
  unfold textB
  have hz : (ByteArray.mk (part s (p + 2) (le (part s p 2))).toArray).size = le (part s p 2) := by rw [bytes_size, hl]
  rw [hz, if_pos (by omega), putL_leB _ _ (part_length (by omega)), show p + 2 + le (part s p 2) - p = 2 + le (part s p 2) by omega, part_addB]

theorem BackK.bool : BackK boolK (fun l v => l = putL v.toNat 1) := by
  intro s p p' v hp h
  unfold boolK at h
  by_cases hc : s.size < p + 1
  · rw [boolF_cut hc] at h; simp at h
  by_cases hb : 1 < le (part s p 1)
  · rw [boolF_form (by omega) hb] at h; simp at h
  rw [boolF_ok (by omega) (by omega)] at h
  simp only [Prod.mk.injEq, true_and] at h
  obtain ⟨rfl, rfl⟩ := h
  refine ⟨by omega, by omega, ?_⟩
  rw [show p + 1 - p = 1 by omega]
  have hv : (le (part s p 1) == 1).toNat = le (part s p 1) := by
    rcases (by omega : le (part s p 1) = 0 ∨ le (part s p 1) = 1) with h | h <;> rw [h] <;> rfl
  show part s p 1 = putL (le (part s p 1) == 1).toNat 1
  rw [hv, putL_leB _ _ (part_length (by omega))]

theorem BackK.count (m : Nat) : BackK (countK m) (fun l v => l = putL v 2 ∧ v ≤ m) := by
  intro s p p' v hp h
  unfold countK countF at h
  by_cases c : m < (numF s p 0 2).2.2
  · rw [if_pos c] at h
    simp only [Prod.mk.injEq, failE] at h
    split at h <;> simp_all
  · rw [if_neg c] at h
    have h1 : numK 2 s p 0 = (p', 0, v) := h
    obtain ⟨a, b, hl, _⟩ := BackK.num 2 (by omega) s p p' v hp h1
    have h2 : numF s p 0 2 = (p', 0, v) := h
    rw [h2] at c
    exact ⟨a, b, hl, by simpa using c⟩

end Go.Proofs.YtgkfdakieebnmaaGreat

namespace Go.Proofs.YtgkfdakieebnmaaGreat
open Go.RowKit Go.Sort

def ErrK {α : Type} (F : Tk α) : Prop := ∀ s p e, e ≠ 0 → (F s p e).2.1 ≠ 0

theorem SureK.errK {α : Type} {F : Tk α} (h : SureK F) : ErrK F := h.err
theorem ErrK.ret {α : Type} (v : α) : ErrK (retK v) := fun s p e h => h
theorem ErrK.bind {α β : Type} {F : Tk α} {G : α → Tk β} (hF : ErrK F) (hG : ∀ v, ErrK (G v)) : ErrK (bindK F G) := fun s p e h => hG _ _ _ _ (hF s p e h)
theorem ErrK.ite {α : Type} {F G : Tk α} (c : Prop) [Decidable c] (hF : ErrK F) (hG : ErrK G) : ErrK (if c then F else G) := by
  split
  · exact hF
  · exact hG
theorem ErrK.num (n : Nat) : ErrK (numK n) := (SureK.num n).errK
theorem ErrK.text (n : Nat) : ErrK (textK n) := (SureK.text n).errK
theorem ErrK.bool : ErrK boolK := SureK.bool.errK

def PostK {α : Type} (F : Tk α) (P : α → Prop) : Prop := BackK F (fun _ v => P v)

theorem PostK.ret {α : Type} {P : α → Prop} (v : α) (h : P v) : PostK (retK v) P := (BackK.ret v).mono fun l u ⟨_, hu⟩ => by subst hu; exact h

theorem PostK.bind {α β : Type} {F : Tk α} {G : α → Tk β} {P : α → Prop} {Q : β → Prop} (hF : PostK F P) (sG : ∀ v, ErrK (G v)) (hG : ∀ v, P v → PostK (G v) Q) : PostK (bindK F G) Q := by
  intro s p p' u hp h
  unfold bindK at h
  cases hft : F s p 0 with
  | mk p1 q =>
    obtain ⟨e1, v1⟩ := q
    rw [hft] at h
    simp only at h
    have he : e1 = 0 := by
      by_cases c : e1 = 0
      · exact c
      · have := sG v1 s p1 e1 c
        rw [h] at this
        exact absurd rfl this
    subst he
    obtain ⟨a1, a2, a3⟩ := hF s p p1 v1 hp hft
    obtain ⟨b1, b2, b3⟩ := hG v1 a3 s p1 p' u a2 h
    exact ⟨by omega, b2, b3⟩

theorem PostK.num (n : Nat) (hn : n ≤ 8) : PostK (numK n) (fun v => v < 2 ^ (8 * n)) := (BackK.num n hn).mono fun _ _ h => h.2
theorem PostK.text (m : Nat) (hm : m ≤ 65535) : PostK (textK m) (fun v => v.length ≤ m) := (BackK.text m hm).mono fun _ _ h => h.2
theorem PostK.bool : PostK boolK (fun _ => True) := BackK.bool.mono fun _ _ _ => trivial
theorem PostK.count (m : Nat) : PostK (countK m) (fun v => v ≤ m) := (BackK.count m).mono fun _ _ h => h.2
theorem PostK.ite {α : Type} {F G : Tk α} {P : α → Prop} (c : Prop) [Decidable c] (hF : PostK F P) (hG : PostK G P) : PostK (if c then F else G) P := by
  split
  · exact hF
  · exact hG

def TxFit (t : TxV) : Prop := (0 ≤ t.1 ∧ t.1 < 4294967296) ∧ (0 ≤ t.2.1 ∧ t.2.1 < 256) ∧ t.2.2.1 < 18446744073709551616 ∧ t.2.2.2 < 18446744073709551616
def DiFit (t : DiV) : Prop := t.1 < 4294967296 ∧ t.2 < 18446744073709551616

theorem PostK.txStep {F : Tk (List TxV)} {k : Nat} (h : PostK F (fun v => v.length = k ∧ ∀ t ∈ v, TxFit t)) : PostK (txStepK F) (fun v => v.length = k + 1 ∧ ∀ t ∈ v, TxFit t) := by
  unfold txStepK
  refine h.bind (fun _ => (ErrK.num 4).bind fun _ => (ErrK.num 1).bind fun _ => (ErrK.num 8).bind fun _ => (ErrK.num 8).bind fun _ => ErrK.ret _) fun L hL => ?_
  refine (PostK.num 4 (by omega)).bind (fun _ => (ErrK.num 1).bind fun _ => (ErrK.num 8).bind fun _ => (ErrK.num 8).bind fun _ => ErrK.ret _) fun a ha => ?_
  refine (PostK.num 1 (by omega)).bind (fun _ => (ErrK.num 8).bind fun _ => (ErrK.num 8).bind fun _ => ErrK.ret _) fun b hb => ?_
  refine (PostK.num 8 (by omega)).bind (fun _ => (ErrK.num 8).bind fun _ => ErrK.ret _) fun c hc => ?_
  refine (PostK.num 8 (by omega)).bind (fun _ => ErrK.ret _) fun d hd => ?_
  refine PostK.ret _ ⟨by simp [hL.1], fun t ht => ?_⟩
  rw [List.mem_append] at ht
  rcases ht with ht | ht
  · exact hL.2 t ht
  · simp only [List.mem_singleton] at ht
    subst ht
    exact ⟨by show 0 ≤ (a : Int) ∧ (a : Int) < _; omega, by show 0 ≤ (b : Int) ∧ (b : Int) < _; omega, by show c < _; omega, by show d < _; omega⟩

theorem PostK.diStep {F : Tk (List DiV)} {k : Nat} (h : PostK F (fun v => v.length = k ∧ ∀ t ∈ v, DiFit t)) : PostK (diStepK F) (fun v => v.length = k + 1 ∧ ∀ t ∈ v, DiFit t) := by
  unfold diStepK
  refine h.bind (fun _ => (ErrK.num 4).bind fun _ => (ErrK.num 8).bind fun _ => ErrK.ret _) fun L hL => ?_
  refine (PostK.num 4 (by omega)).bind (fun _ => (ErrK.num 8).bind fun _ => ErrK.ret _) fun a ha => ?_
  refine (PostK.num 8 (by omega)).bind (fun _ => ErrK.ret _) fun b hb => ?_
  refine PostK.ret _ ⟨by simp [hL.1], fun t ht => ?_⟩
  rw [List.mem_append] at ht
  rcases ht with ht | ht
  · exact hL.2 t ht
  · simp only [List.mem_singleton] at ht
    subst ht
    exact ⟨by show a < _; omega, by show b < _; omega⟩

theorem PostK.txs (k : Nat) : PostK (txsK k) (fun v => v.length = k ∧ ∀ t ∈ v, TxFit t) := by
  induction k with
  | zero => exact PostK.ret _ ⟨rfl, by simp⟩
  | succ k ih => exact ih.txStep
theorem PostK.dis (k : Nat) : PostK (disK k) (fun v => v.length = k ∧ ∀ t ∈ v, DiFit t) := by
  induction k with
  | zero => exact PostK.ret _ ⟨rfl, by simp⟩
  | succ k ih => exact ih.diStep

end Go.Proofs.YtgkfdakieebnmaaGreat

namespace Go.Proofs.YtgkfdakieebnmaaGreat
open Go.RowKit Go.Sort

structure RecFit (r : RecV) : Prop where
  kind : 0 ≤ r.kind ∧ r.kind < 256
  tx : 0 ≤ r.tx ∧ r.tx < 4294967296
  prev : r.prev < 18446744073709551616
  next : r.next < 18446744073709551616
  page : r.page < 4294967296
  opk : 0 ≤ r.op.kind ∧ r.op.kind < 256
  opa : 0 ≤ r.op.at' ∧ r.op.at' < 65536
  opS : r.op.S.size ≤ 65535
  opT : r.op.old.size ≤ 65535
  undo : 0 ≤ r.undo ∧ r.undo < 256
  index : 0 ≤ r.index ∧ r.index < 65536
  key : r.key.size ≤ 65535
  rpage : r.rpage < 4294967296
  rslot : 0 ≤ r.rslot ∧ r.rslot < 65536
  tlen : r.txs.length ≤ 65535
  dlen : r.dirty.length ≤ 65535
  txs : ∀ t ∈ r.txs, TxFit t
  dirty : ∀ t ∈ r.dirty, DiFit t

theorem post_head : PostK headK RecFit := by
  unfold headK
  refine (PostK.num 1 (by omega)).bind (fun _ => (ErrK.num 4).bind fun _ => (ErrK.num 8).bind fun _ => ErrK.ret _) fun a ha => ?_
  refine (PostK.num 4 (by omega)).bind (fun _ => (ErrK.num 8).bind fun _ => ErrK.ret _) fun b hb => ?_
  refine (PostK.num 8 (by omega)).bind (fun _ => ErrK.ret _) fun c hc => ?_
  refine PostK.ret _ ?_
  unfold plainV
  exact ⟨by show 0 ≤ (a : Int) ∧ (a : Int) < _; omega, by show 0 ≤ (b : Int) ∧ (b : Int) < _; omega, by show c < _; omega, by first | (simp; done) | exact Nat.zero_le _, by first | (simp; done) | exact Nat.zero_le _, by first | (simp; done) | exact Nat.zero_le _, by first | (simp; done) | exact Nat.zero_le _, by first | (simp; done) | exact Nat.zero_le _, by first | (simp; done) | exact Nat.zero_le _, by first | (simp; done) | exact Nat.zero_le _, by first | (simp; done) | exact Nat.zero_le _, by first | (simp; done) | exact Nat.zero_le _, by first | (simp; done) | exact Nat.zero_le _, by first | (simp; done) | exact Nat.zero_le _, by first | (simp; done) | exact Nat.zero_le _, by first | (simp; done) | exact Nat.zero_le _, by first | (simp; done) | exact Nat.zero_le _, by first | (simp; done) | exact Nat.zero_le _⟩

theorem post_next (R : RecV) (h : RecFit R) : PostK (nextK R) RecFit := by
  unfold nextK
  refine PostK.ite _ ?_ (PostK.ret _ h)
  refine (PostK.num 8 (by omega)).bind (fun _ => ErrK.ret _) fun a ha => PostK.ret _ ?_
  exact ⟨h.kind, h.tx, h.prev, by show a < _; omega, h.page, h.opk, h.opa, h.opS, h.opT, h.undo, h.index, h.key, h.rpage, h.rslot, h.tlen, h.dlen, h.txs, h.dirty⟩

theorem post_change (R : RecV) (h : RecFit R) : PostK (changeK R) RecFit := by
  unfold changeK
  refine PostK.ite _ ?_ (PostK.ret _ h)
  refine (PostK.num 4 (by omega)).bind (fun _ => (ErrK.num 1).bind fun _ => (ErrK.num 2).bind fun _ => (ErrK.text _).bind fun _ => (ErrK.text _).bind fun _ => (ErrK.num 1).bind fun _ => ErrK.ret _) fun a ha => ?_
  refine (PostK.num 1 (by omega)).bind (fun _ => (ErrK.num 2).bind fun _ => (ErrK.text _).bind fun _ => (ErrK.text _).bind fun _ => (ErrK.num 1).bind fun _ => ErrK.ret _) fun b hb => ?_
  refine (PostK.num 2 (by omega)).bind (fun _ => (ErrK.text _).bind fun _ => (ErrK.text _).bind fun _ => (ErrK.num 1).bind fun _ => ErrK.ret _) fun c hc => ?_
  refine (PostK.text 65535 (by omega)).bind (fun _ => (ErrK.text _).bind fun _ => (ErrK.num 1).bind fun _ => ErrK.ret _) fun d hd => ?_
  refine (PostK.text 65535 (by omega)).bind (fun _ => (ErrK.num 1).bind fun _ => ErrK.ret _) fun f hf => ?_
  refine (PostK.num 1 (by omega)).bind (fun _ => ErrK.ret _) fun g hg => PostK.ret _ ?_
  exact ⟨h.kind, h.tx, h.prev, h.next, by show a < _; omega, by show 0 ≤ (b : Int) ∧ (b : Int) < _; omega, by show 0 ≤ (c : Int) ∧ (c : Int) < _; omega, by show (ByteArray.mk d.toArray).size ≤ _; rw [bytes_size]; exact hd, by show (ByteArray.mk f.toArray).size ≤ _; rw [bytes_size]; exact hf, by show 0 ≤ (g : Int) ∧ (g : Int) < _; omega, h.index, h.key, h.rpage, h.rslot, h.tlen, h.dlen, h.txs, h.dirty⟩

theorem post_keyOf (m : Nat) (hm : m ≤ 65535) (R : RecV) (h : RecFit R) : PostK (if keyB R then (bindK (numK 2) fun a => bindK (textK m) fun b => bindK (numK 4) fun c => bindK (numK 2) fun d => bindK boolK fun f => retK { R with index := a, key := ⟨b.toArray⟩, rpage := c, rslot := d, live := f }) else retK R) RecFit := by
  refine PostK.ite _ ?_ (PostK.ret _ h)
  refine (PostK.num 2 (by omega)).bind (fun _ => (ErrK.text _).bind fun _ => (ErrK.num 4).bind fun _ => (ErrK.num 2).bind fun _ => ErrK.bool.bind fun _ => ErrK.ret _) fun a ha => ?_
  refine (PostK.text m hm).bind (fun _ => (ErrK.num 4).bind fun _ => (ErrK.num 2).bind fun _ => ErrK.bool.bind fun _ => ErrK.ret _) fun b hb => ?_
  refine (PostK.num 4 (by omega)).bind (fun _ => (ErrK.num 2).bind fun _ => ErrK.bool.bind fun _ => ErrK.ret _) fun c hc => ?_
  refine (PostK.num 2 (by omega)).bind (fun _ => ErrK.bool.bind fun _ => ErrK.ret _) fun d hd => ?_
  refine PostK.bool.bind (fun _ => ErrK.ret _) fun f _ => PostK.ret _ ?_
  exact ⟨h.kind, h.tx, h.prev, h.next, h.page, h.opk, h.opa, h.opS, h.opT, h.undo, by show 0 ≤ (a : Int) ∧ (a : Int) < _; omega, by show (ByteArray.mk b.toArray).size ≤ _; rw [bytes_size]; exact Nat.le_trans hb hm, by show c < _; omega, by show 0 ≤ (d : Int) ∧ (d : Int) < _; omega, h.tlen, h.dlen, h.txs, h.dirty⟩

theorem post_lists (R : RecV) (h : RecFit R) : PostK (listsK R) RecFit := by
  unfold listsK
  refine PostK.ite _ ?_ (PostK.ret _ h)
  refine (PostK.count 64).bind (fun _ => (SureK.txs _).errK.bind fun _ => (SureK.count 256).errK.bind fun _ => (SureK.dis _).errK.bind fun _ => ErrK.ret _) fun a ha => ?_
  refine (PostK.txs a).bind (fun _ => (SureK.count 256).errK.bind fun _ => (SureK.dis _).errK.bind fun _ => ErrK.ret _) fun b hb => ?_
  refine (PostK.count 256).bind (fun _ => (SureK.dis _).errK.bind fun _ => ErrK.ret _) fun c hc => ?_
  refine (PostK.dis c).bind (fun _ => ErrK.ret _) fun d hd => PostK.ret _ ?_
  exact ⟨h.kind, h.tx, h.prev, h.next, h.page, h.opk, h.opa, h.opS, h.opT, h.undo, h.index, h.key, h.rpage, h.rslot, by show b.length ≤ _; omega, by show d.length ≤ _; omega, hb.2, hd.2⟩

theorem err_next (R : RecV) : ErrK (nextK R) := by unfold nextK; exact ErrK.ite _ ((ErrK.num 8).bind fun _ => ErrK.ret _) (ErrK.ret _)
theorem err_change (R : RecV) : ErrK (changeK R) := by unfold changeK; exact ErrK.ite _ ((ErrK.num 4).bind fun _ => (ErrK.num 1).bind fun _ => (ErrK.num 2).bind fun _ => (ErrK.text _).bind fun _ => (ErrK.text _).bind fun _ => (ErrK.num 1).bind fun _ => ErrK.ret _) (ErrK.ret _)
theorem err_key (R : RecV) : ErrK (keyK R) := by unfold keyK; exact ErrK.ite _ ((ErrK.num 2).bind fun _ => (ErrK.text _).bind fun _ => (ErrK.num 4).bind fun _ => (ErrK.num 2).bind fun _ => ErrK.bool.bind fun _ => ErrK.ret _) (ErrK.ret _)
theorem err_xkey (R : RecV) : ErrK (xkeyK R) := by unfold xkeyK; exact ErrK.ite _ ((ErrK.num 2).bind fun _ => (ErrK.text _).bind fun _ => (ErrK.num 4).bind fun _ => (ErrK.num 2).bind fun _ => ErrK.bool.bind fun _ => ErrK.ret _) (ErrK.ret _)
theorem err_lists (R : RecV) : ErrK (listsK R) := by unfold listsK; exact ErrK.ite _ ((SureK.count 64).errK.bind fun _ => (SureK.txs _).errK.bind fun _ => (SureK.count 256).errK.bind fun _ => (SureK.dis _).errK.bind fun _ => ErrK.ret _) (ErrK.ret _)

theorem post_rec : PostK recK RecFit := by
  unfold recK
  exact post_head.bind (fun a => (err_next a).bind fun b => (err_change b).bind fun c => (err_key c).bind fun d => err_lists d) fun a ha => (post_next a ha).bind (fun b => (err_change b).bind fun c => (err_key c).bind fun d => err_lists d) fun b hb => (post_change b hb).bind (fun c => (err_key c).bind fun d => err_lists d) fun c hc => (post_keyOf 64 (by omega) c hc).bind (fun d => err_lists d) fun d hd => post_lists d hd

theorem RecFit.ok {r : RecV} (h : RecFit r) (wx : World) (ta da : Option Addr) (h1 : TxsAt wx ta r.txs) (h2 : DisAt wx da r.dirty) : r.Ok wx ta da :=
  ⟨by have := h.kind; omega, by have := h.tx; omega, h.prev, h.next, h.page, ⟨by have := h.opk; omega, by have := h.opa; omega, by have := h.opS; omega, by have := h.opT; omega⟩, by have := h.undo; omega, by have := h.index; omega, by have := h.key; omega, h.rpage, by have := h.rslot; omega, by have := h.tlen; omega, by have := h.dlen; omega, h1, h2⟩

theorem reads_fit {s : ByteArray} {r : RecV} {p : Nat} (h : readR s = (p, 0, r)) : RecFit r := by
  rw [recK_eq] at h
  exact (post_rec s 0 p r (Nat.zero_le _) h).2.2

end Go.Proofs.YtgkfdakieebnmaaGreat
