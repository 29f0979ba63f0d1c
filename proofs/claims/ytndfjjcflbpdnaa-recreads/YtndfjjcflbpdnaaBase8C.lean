/-
  What was read is what stands there: the bytes that a taker took are those of its value.
  girderref04.takeChange by the plain functions.
  What a taker that met no error read lies within bounds: of the program's and of the document's.
  Where the document's reading accepts, and where the program's does: at the same bytes, with the same record.
  Where girderref04.Decode stands.
-/
import Derived.Test.YtndfjjcflbpdnaaBase7C
import Derived.Test.YtndfjjcflbpdnaaRefTk3C
import Derived.Test.YtndfjjcflbpdnaaRefTab2C
namespace Go.Proofs.Ytndfjjcflbpdnaa
open Go.RowKit Go.Sort
set_option linter.unusedVariables false

theorem putL_leB (l : List UInt8) (n : Nat) (h : l.length = n) : putL (le l) n = l := by
  subst h
  refine le_inj (putL_length _ _) ?_
  rw [le_putL, Nat.mod_eq_of_lt (le_lt l)]

theorem part_addB (s : ByteArray) (a m n : Nat) : part s a (m + n) = part s a m ++ part s (a + m) n := by
  unfold part
  rw [List.take_add, List.drop_drop]

/-- Where a taker meets no error, the bytes that it took and its value are so. -/
def BackK {α : Type} (F : Tk α) (Φ : List UInt8 → α → Prop) : Prop :=
  ∀ (s : ByteArray) (p p' : Nat) (v : α), p ≤ s.size → F s p 0 = (p', 0, v) → p ≤ p' ∧ p' ≤ s.size ∧ Φ (part s p (p' - p)) v

theorem BackK.mono {α : Type} {F : Tk α} {Φ Ψ : List UInt8 → α → Prop} (h : BackK F Φ) (k : ∀ l v, Φ l v → Ψ l v) : BackK F Ψ := fun s p p' v hp hf =>
  have ⟨a, b, c⟩ := h s p p' v hp hf
  ⟨a, b, k _ _ c⟩

theorem BackK.ret {α : Type} (v : α) : BackK (retK v) (fun l u => l = [] ∧ u = v) := by
  intro s p p' u hp h
  simp only [retK, Prod.mk.injEq] at h
  obtain ⟨rfl, _, rfl⟩ := h
  refine ⟨Nat.le_refl _, hp, ?_, rfl⟩
  rw [Nat.sub_self]
  unfold part
  simp

theorem BackK.bind {α β : Type} {F : Tk α} {G : α → Tk β} {Φ : List UInt8 → α → Prop} {Ψ : α → List UInt8 → β → Prop} (hF : BackK F Φ) (sG : ∀ v, SureK (G v)) (hG : ∀ v, BackK (G v) (Ψ v)) :
    BackK (bindK F G) (fun l u => ∃ l1 l2 v, l = l1 ++ l2 ∧ Φ l1 v ∧ Ψ v l2 u) := by
  intro s p p' u hp h
  unfold bindK at h
  cases hft : F s p 0 with
  | mk p1 q =>
    obtain ⟨e1, v1⟩ := q
    rw [hft] at h
    simp only at h
    have he : e1 = 0 := by
      by_cases c : e1 = 0
      · exact c
      · have := (sG v1).err s p1 e1 c
        rw [h] at this
        exact absurd rfl this
    subst he
    obtain ⟨a1, a2, a3⟩ := hF s p p1 v1 hp hft
    obtain ⟨b1, b2, b3⟩ := hG v1 s p1 p' u a2 h
    refine ⟨by omega, b2, part s p (p1 - p), part s p1 (p' - p1), v1, ?_, a3, b3⟩
    rw [show p' - p = (p1 - p) + (p' - p1) by omega, part_addB, show p + (p1 - p) = p1 by omega]

theorem BackK.num (n : Nat) (hn : n ≤ 8) : BackK (numK n) (fun l v => l = putL v n ∧ v < 2 ^ (8 * n)) := by
  intro s p p' v hp h
  have hlt := numF_lt s p 0 n
  unfold numK at h
  rw [h] at hlt
  by_cases hc : s.size < p + n
  · rw [numF_cut n hn hc] at h; simp at h
  · rw [numF_ok n hn (by omega)] at h
    simp only [Prod.mk.injEq, true_and] at h
    obtain ⟨rfl, rfl⟩ := h
    refine ⟨by omega, by omega, ?_, hlt⟩
    rw [show p + n - p = n by omega, putL_leB _ _ (part_length (by omega))]

theorem BackK.text (m : Nat) (hm : m ≤ 65535) : BackK (textK m) (fun l v => l = textB ⟨v.toArray⟩ ∧ v.length ≤ m) := by
  intro s p p' v hp h
  unfold textK at h
  by_cases hc : s.size < p + 2
  · rw [textF_cut m hc] at h; simp at h
  by_cases hx : (m : Int) < (le (part s p 2) : Int)
  · rw [textF_more m (by omega) hx] at h; simp at h
  by_cases hd : s.size < p + 2 + le (part s p 2)
  · rw [textF_cut2 m (by omega) (by omega) hd] at h; simp at h
  rw [textF_ok m (by omega) (by omega)] at h
  simp only [Prod.mk.injEq, true_and] at h
  obtain ⟨rfl, rfl⟩ := h
  have hl : (part s (p + 2) (le (part s p 2))).length = le (part s p 2) := part_length (by omega)
  refine ⟨by omega, by omega, ?_, by omega⟩
  unfold textB
  have hz : (ByteArray.mk (part s (p + 2) (le (part s p 2))).toArray).size = le (part s p 2) := by rw [bytes_size, hl]
  rw [hz, if_pos (by omega), putL_leB _ _ (part_length (by omega)), show p + 2 + le (part s p 2) - p = 2 + le (part s p 2) by omega, part_addB]

theorem BackK.bool : BackK boolK (fun l v => l = putL v.toNat 1) := by
  intro s p p' v hp h
  unfold boolK at h
  by_cases hc : s.size < p + 1
  · rw [boolF_cut hc] at h; simp at h
  by_cases hb : 1 < le (part s p 1)
  · rw [boolF_form (by omega) hb] at h; simp at h
  rw [boolF_ok (by omega) (by omega)] at h
  simp only [Prod.mk.injEq, true_and] at h
  obtain ⟨rfl, rfl⟩ := h
  refine ⟨by omega, by omega, ?_⟩
  rw [show p + 1 - p = 1 by omega]
  have hv : (le (part s p 1) == 1).toNat = le (part s p 1) := by
    rcases (by omega : le (part s p 1) = 0 ∨ le (part s p 1) = 1) with h | h <;> rw [h] <;> rfl
  show part s p 1 = putL (le (part s p 1) == 1).toNat 1
  rw [hv, putL_leB _ _ (part_length (by omega))]

theorem BackK.count (m : Nat) : BackK (countK m) (fun l v => l = putL v 2 ∧ v ≤ m) := by
  intro s p p' v hp h
  unfold countK countF at h
  by_cases c : m < (numF s p 0 2).2.2
  · rw [if_pos c] at h
    simp only [Prod.mk.injEq, failE] at h
    split at h <;> simp_all
  · rw [if_neg c] at h
    have h1 : numK 2 s p 0 = (p', 0, v) := h
    obtain ⟨a, b, hl, _⟩ := BackK.num 2 (by omega) s p p' v hp h1
    have h2 : numF s p 0 2 = (p', 0, v) := h
    rw [h2] at c
    exact ⟨a, b, hl, by simpa using c⟩

theorem BackK.txs (k : Nat) : BackK (txsK k) (fun l v => l = v.flatMap txL ∧ v.length = k ∧ ∀ t ∈ v, 0 ≤ t.1 ∧ 0 ≤ t.2.1) := by
  induction k with
  | zero => exact (BackK.ret _).mono fun l v ⟨h1, h2⟩ => by subst h2; exact ⟨h1, rfl, by simp⟩
  | succ k ih =>
    have : txsK (k + 1) = bindK (txsK k) fun L => bindK (numK 4) fun a => bindK (numK 1) fun b => bindK (numK 8) fun c => bindK (numK 8) fun d => retK (L ++ [((a : Int), (b : Int), c, d)]) := rfl
    rw [this]
    refine (ih.bind (fun _ => (SureK.num 4).bind fun _ => (SureK.num 1).bind fun _ => (SureK.num 8).bind fun _ => (SureK.num 8).bind fun _ => SureK.ret _) fun L => (BackK.num 4 (by omega)).bind (fun _ => (SureK.num 1).bind fun _ => (SureK.num 8).bind fun _ => (SureK.num 8).bind fun _ => SureK.ret _) fun a => (BackK.num 1 (by omega)).bind (fun _ => (SureK.num 8).bind fun _ => (SureK.num 8).bind fun _ => SureK.ret _) fun b => (BackK.num 8 (by omega)).bind (fun _ => (SureK.num 8).bind fun _ => SureK.ret _) fun c => (BackK.num 8 (by omega)).bind (fun _ => SureK.ret _) fun d => BackK.ret _).mono ?_
    rintro l v ⟨l0, r0, L, rfl, ⟨rfl, hL, hb⟩, l1, r1, a, rfl, ⟨rfl, _⟩, l2, r2, b, rfl, ⟨rfl, _⟩, l3, r3, c, rfl, ⟨rfl, _⟩, l4, r4, d, rfl, ⟨rfl, _⟩, rfl, rfl⟩
    refine ⟨?_, by simp [hL], ?_⟩
    · rw [List.flatMap_append]
      simp [txL]
    · intro t ht
      rw [List.mem_append] at ht
      rcases ht with ht | ht
      · exact hb t ht
      · simp only [List.mem_singleton] at ht
        subst ht
        exact ⟨by simp, by simp⟩

theorem BackK.dis (k : Nat) : BackK (disK k) (fun l v => l = v.flatMap diL ∧ v.length = k) := by
  induction k with
  | zero => exact (BackK.ret _).mono fun l v ⟨h1, h2⟩ => by subst h2; exact ⟨h1, rfl⟩
  | succ k ih =>
    have : disK (k + 1) = bindK (disK k) fun L => bindK (numK 4) fun a => bindK (numK 8) fun b => retK (L ++ [(a, b)]) := rfl
    rw [this]
    refine (ih.bind (fun _ => (SureK.num 4).bind fun _ => (SureK.num 8).bind fun _ => SureK.ret _) fun L => (BackK.num 4 (by omega)).bind (fun _ => (SureK.num 8).bind fun _ => SureK.ret _) fun a => (BackK.num 8 (by omega)).bind (fun _ => SureK.ret _) fun b => BackK.ret _).mono ?_
    rintro l v ⟨l0, r0, L, rfl, ⟨rfl, hL⟩, l1, r1, a, rfl, ⟨rfl, _⟩, l2, r2, b, rfl, ⟨rfl, _⟩, rfl, rfl⟩
    refine ⟨?_, by simp [hL]⟩
    rw [List.flatMap_append]
    simp [diL]

theorem BackK.ite {α : Type} {F G : Tk α} {Φ : List UInt8 → α → Prop} (c : Prop) [Decidable c] (hF : c → BackK F Φ) (hG : ¬ c → BackK G Φ) : BackK (if c then F else G) Φ := by
  split
  · exact hF ‹_›
  · exact hG ‹_›

theorem back_head : BackK headK (fun l r => l = putL r.kind.toNat 1 ++ (putL r.tx.toNat 4 ++ putL r.prev 8)) := by
  unfold headK
  refine ((BackK.num 1 (by omega)).bind (fun _ => (SureK.num 4).bind fun _ => (SureK.num 8).bind fun _ => SureK.ret _) fun a => (BackK.num 4 (by omega)).bind (fun _ => (SureK.num 8).bind fun _ => SureK.ret _) fun b => (BackK.num 8 (by omega)).bind (fun _ => SureK.ret _) fun c => BackK.ret _).mono ?_
  rintro l v ⟨l1, r1, a, rfl, ⟨rfl, _⟩, l2, r2, b, rfl, ⟨rfl, _⟩, l3, r3, c, rfl, ⟨rfl, _⟩, rfl, rfl⟩
  simp [plainV]

theorem back_next (R : RecV) : BackK (nextK R) (fun l r => l = (if nextB r then putL r.next 8 else []) ∧ r = { R with next := r.next }) := by
  unfold nextK
  refine BackK.ite _ (fun hc => ?_) (fun hc => ?_)
  · refine ((BackK.num 8 (by omega)).bind (fun _ => SureK.ret _) fun a => BackK.ret _).mono ?_
    rintro l v ⟨l1, r1, a, rfl, ⟨rfl, _⟩, rfl, rfl⟩
    refine ⟨?_, rfl⟩
    rw [if_pos (show nextB { R with next := a } = true from hc)]
    simp
  · refine (BackK.ret _).mono ?_
    rintro l v ⟨rfl, rfl⟩
    exact ⟨by rw [if_neg hc], rfl⟩

theorem back_change (R : RecV) : BackK (changeK R) (fun l r => l = (if changeB r then changeL r else []) ∧ r = { R with page := r.page, op := r.op, undo := r.undo }) := by
  unfold changeK
  refine BackK.ite _ (fun hc => ?_) (fun hc => ?_)
  · refine ((BackK.num 4 (by omega)).bind (fun _ => (SureK.num 1).bind fun _ => (SureK.num 2).bind fun _ => (SureK.text _).bind fun _ => (SureK.text _).bind fun _ => (SureK.num 1).bind fun _ => SureK.ret _) fun a => (BackK.num 1 (by omega)).bind (fun _ => (SureK.num 2).bind fun _ => (SureK.text _).bind fun _ => (SureK.text _).bind fun _ => (SureK.num 1).bind fun _ => SureK.ret _) fun b => (BackK.num 2 (by omega)).bind (fun _ => (SureK.text _).bind fun _ => (SureK.text _).bind fun _ => (SureK.num 1).bind fun _ => SureK.ret _) fun c => (BackK.text 65535 (by omega)).bind (fun _ => (SureK.text _).bind fun _ => (SureK.num 1).bind fun _ => SureK.ret _) fun d => (BackK.text 65535 (by omega)).bind (fun _ => (SureK.num 1).bind fun _ => SureK.ret _) fun f => (BackK.num 1 (by omega)).bind (fun _ => SureK.ret _) fun g => BackK.ret _).mono ?_
    rintro l v ⟨l1, r1, a, rfl, ⟨rfl, _⟩, l2, r2, b, rfl, ⟨rfl, _⟩, l3, r3, c, rfl, ⟨rfl, _⟩, l4, r4, d, rfl, ⟨rfl, _⟩, l5, r5, f, rfl, ⟨rfl, _⟩, l6, r6, g, rfl, ⟨rfl, _⟩, rfl, rfl⟩
    refine ⟨?_, rfl⟩
    rw [if_pos (show changeB { R with page := a, op := ⟨b, c, ⟨d.toArray⟩, ⟨f.toArray⟩⟩, undo := g } = true from hc)]
    simp [changeL]
  · refine (BackK.ret _).mono ?_
    rintro l v ⟨rfl, rfl⟩
    exact ⟨by rw [if_neg hc], rfl⟩

theorem back_key (R : RecV) : BackK (keyK R) (fun l r => l = (if keyB r then keyL r else []) ∧ r = { R with index := r.index, key := r.key, rpage := r.rpage, rslot := r.rslot, live := r.live }) := by
  unfold keyK
  refine BackK.ite _ (fun hc => ?_) (fun hc => ?_)
  · refine ((BackK.num 2 (by omega)).bind (fun _ => (SureK.text _).bind fun _ => (SureK.num 4).bind fun _ => (SureK.num 2).bind fun _ => SureK.bool.bind fun _ => SureK.ret _) fun a => (BackK.text 64 (by omega)).bind (fun _ => (SureK.num 4).bind fun _ => (SureK.num 2).bind fun _ => SureK.bool.bind fun _ => SureK.ret _) fun b => (BackK.num 4 (by omega)).bind (fun _ => (SureK.num 2).bind fun _ => SureK.bool.bind fun _ => SureK.ret _) fun c => (BackK.num 2 (by omega)).bind (fun _ => SureK.bool.bind fun _ => SureK.ret _) fun d => BackK.bool.bind (fun _ => SureK.ret _) fun f => BackK.ret _).mono ?_
    rintro l v ⟨l1, r1, a, rfl, ⟨rfl, _⟩, l2, r2, b, rfl, ⟨rfl, _⟩, l3, r3, c, rfl, ⟨rfl, _⟩, l4, r4, d, rfl, ⟨rfl, _⟩, l5, r5, f, rfl, rfl, rfl, rfl⟩
    refine ⟨?_, rfl⟩
    rw [if_pos (show keyB { R with index := a, key := ⟨b.toArray⟩, rpage := c, rslot := d, live := f } = true from hc)]
    simp [keyL]
  · refine (BackK.ret _).mono ?_
    rintro l v ⟨rfl, rfl⟩
    exact ⟨by rw [if_neg hc], rfl⟩

theorem back_lists (R : RecV) : BackK (listsK R) (fun l r => l = (if listsB r then txsL r.txs ++ disL r.dirty else []) ∧ r = { R with txs := r.txs, dirty := r.dirty }) := by
  unfold listsK
  refine BackK.ite _ (fun hc => ?_) (fun hc => ?_)
  · refine ((BackK.count 64).bind (fun _ => (SureK.txs _).bind fun _ => (SureK.count 256).bind fun _ => (SureK.dis _).bind fun _ => SureK.ret _) fun a => (BackK.txs a).bind (fun _ => (SureK.count 256).bind fun _ => (SureK.dis _).bind fun _ => SureK.ret _) fun b => (BackK.count 256).bind (fun _ => (SureK.dis _).bind fun _ => SureK.ret _) fun c => (BackK.dis c).bind (fun _ => SureK.ret _) fun d => BackK.ret _).mono ?_
    rintro l v ⟨l1, r1, a, rfl, ⟨rfl, _⟩, l2, r2, b, rfl, ⟨rfl, rfl, _⟩, l3, r3, c, rfl, ⟨rfl, _⟩, l4, r4, d, rfl, ⟨rfl, rfl⟩, rfl, rfl⟩
    refine ⟨?_, rfl⟩
    rw [if_pos (show listsB { R with txs := b, dirty := d } = true from hc)]
    simp [txsL, disL]
  · refine (BackK.ret _).mono ?_
    rintro l v ⟨rfl, rfl⟩
    exact ⟨by rw [if_neg hc], rfl⟩

/-- What a record was read of are its bytes. -/
theorem back_all : BackK recK (fun l r => l = encR r) := by
  unfold recK
  have sN : ∀ a, SureK (nextK a) := fun a => by
    unfold nextK
    exact SureK.ite _ ((SureK.num 8).bind fun _ => SureK.ret _) (SureK.ret _)
  have sC : ∀ a, SureK (changeK a) := fun a => by
    unfold changeK
    exact SureK.ite _ ((SureK.num 4).bind fun _ => (SureK.num 1).bind fun _ => (SureK.num 2).bind fun _ => (SureK.text _).bind fun _ => (SureK.text _).bind fun _ => (SureK.num 1).bind fun _ => SureK.ret _) (SureK.ret _)
  have sK : ∀ a, SureK (keyK a) := fun a => by
    unfold keyK
    exact SureK.ite _ ((SureK.num 2).bind fun _ => (SureK.text _).bind fun _ => (SureK.num 4).bind fun _ => (SureK.num 2).bind fun _ => SureK.bool.bind fun _ => SureK.ret _) (SureK.ret _)
  have sL : ∀ a, SureK (listsK a) := fun a => by
    unfold listsK
    exact SureK.ite _ ((SureK.count 64).bind fun _ => (SureK.txs _).bind fun _ => (SureK.count 256).bind fun _ => (SureK.dis _).bind fun _ => SureK.ret _) (SureK.ret _)
  refine (back_head.bind (fun a => (sN a).bind fun b => (sC b).bind fun c => (sK c).bind fun d => sL d) fun a => (back_next a).bind (fun b => (sC b).bind fun c => (sK c).bind fun d => sL d) fun b => (back_change b).bind (fun c => (sK c).bind fun d => sL d) fun c => (back_key c).bind (fun d => sL d) fun d => back_lists d).mono ?_
  rintro l r ⟨l0, t0, R0, rfl, rfl, l1, t1, R1, rfl, ⟨rfl, h1⟩, l2, t2, R2, rfl, ⟨rfl, h2⟩, l3, t3, R3, rfl, ⟨rfl, h3⟩, rfl, h4⟩
  have k4 : r.kind = R3.kind := by rw [h4]
  have k3 : R3.kind = R2.kind := by rw [h3]
  have k2 : R2.kind = R1.kind := by rw [h2]
  have k1 : R1.kind = R0.kind := by rw [h1]
  have x4 : r.tx = R3.tx := by rw [h4]
  have x3 : R3.tx = R2.tx := by rw [h3]
  have x2 : R2.tx = R1.tx := by rw [h2]
  have x1 : R1.tx = R0.tx := by rw [h1]
  have p4 : r.prev = R3.prev := by rw [h4]
  have p3 : R3.prev = R2.prev := by rw [h3]
  have p2 : R2.prev = R1.prev := by rw [h2]
  have p1 : R1.prev = R0.prev := by rw [h1]
  have n4 : r.next = R3.next := by rw [h4]
  have n3 : R3.next = R2.next := by rw [h3]
  have n2 : R2.next = R1.next := by rw [h2]
  have g4 : r.page = R3.page := by rw [h4]
  have g3 : R3.page = R2.page := by rw [h3]
  have o4 : r.op = R3.op := by rw [h4]
  have o3 : R3.op = R2.op := by rw [h3]
  have u4 : r.undo = R3.undo := by rw [h4]
  have u3 : R3.undo = R2.undo := by rw [h3]
  have i4 : r.index = R3.index := by rw [h4]
  have y4 : r.key = R3.key := by rw [h4]
  have a4 : r.rpage = R3.rpage := by rw [h4]
  have b4 : r.rslot = R3.rslot := by rw [h4]
  have c4 : r.live = R3.live := by rw [h4]
  clear h1 h2 h3 h4
  unfold encR changeL keyL nextB changeB keyB listsB
  rw [k4, k3, k2, k1, x4, x3, x2, x1, p4, p3, p2, p1, n4, n3, n2, g4, g3, o4, o3, u4, u3, i4, y4, a4, b4, c4]
  simp only [List.append_assoc]

end Go.Proofs.Ytndfjjcflbpdnaa

namespace Go.Proofs.Ytndfjjcflbpdnaa
open Go.RowKit Go.Sort
set_option linter.unusedVariables false
set_option linter.unusedSimpArgs false

theorem xchange_any (R : RecV) (hc : changeB R = true) (ta da : Option Addr) (tc dc : Nat) {s : ByteArray} {p : Nat} {e : Int} (hsz : s.size ≤ 140737488351232) (hle : p ≤ s.size) :
    ∃ (p5 : Nat) (e5 : Int) (R3 : RecV), bindK (changeK R) xkeyK s p e = (p5, e5, R3) ∧ p5 ≤ s.size ∧ R3.kind = R.kind ∧ R3.txs = R.txs ∧ R3.dirty = R.dirty ∧
    ∀ w, Calls Try.prog 24 #[.agg #[.string s, .int .i64 p, .int .i64 e], .agg (R.cells ta da tc dc)] w fun x w' => x = .returned (.tuple #[.agg #[.string s, .int .i64 p5, .int .i64 e5], .agg (R3.cells ta da tc dc)]) ∧ Below w.heap.size w w' := by
  obtain ⟨p0, e0, n0, h0⟩ : ∃ q f a, numF s p e 4 = (q, f, a) := ⟨_, _, _, rfl⟩
  have l0 : p0 ≤ s.size := by have := numF_place (e := e) 4 hle; rw [h0] at this; exact this
  obtain ⟨p1, e1, n1, h1⟩ : ∃ q f a, numF s p0 e0 1 = (q, f, a) := ⟨_, _, _, rfl⟩
  have l1 : p1 ≤ s.size := by have := numF_place (e := e0) 1 l0; rw [h1] at this; exact this
  obtain ⟨p2, e2, n2, h2⟩ : ∃ q f a, numF s p1 e1 2 = (q, f, a) := ⟨_, _, _, rfl⟩
  have l2 : p2 ≤ s.size := by have := numF_place (e := e1) 2 l1; rw [h2] at this; exact this
  obtain ⟨p3, e3, n3, h3⟩ : ∃ q f a, textF s p2 e2 65535 = (q, f, a) := ⟨_, _, _, rfl⟩
  have l3 : p3 ≤ s.size := by have := textF_place (e := e2) 65535 l2; rw [h3] at this; exact this
  obtain ⟨p4, e4, n4, h4⟩ : ∃ q f a, textF s p3 e3 65535 = (q, f, a) := ⟨_, _, _, rfl⟩
  have l4 : p4 ≤ s.size := by have := textF_place (e := e3) 65535 l3; rw [h4] at this; exact this
  obtain ⟨p5, e5, n5, h5⟩ : ∃ q f a, numF s p4 e4 1 = (q, f, a) := ⟨_, _, _, rfl⟩
  have l5 : p5 ≤ s.size := by have := numF_place (e := e4) 1 l4; rw [h5] at this; exact this
  have hC : changeK R s p e = (p5, e5, { R with page := n0, op := ⟨n1, n2, ⟨n3.toArray⟩, ⟨n4.toArray⟩⟩, undo := n5 }) := by
    have g0 : numK 4 s p e = (p0, e0, n0) := h0
    have g1 : numK 1 s p0 e0 = (p1, e1, n1) := h1
    have g2 : numK 2 s p1 e1 = (p2, e2, n2) := h2
    have g3 : textK 65535 s p2 e2 = (p3, e3, n3) := h3
    have g4 : textK 65535 s p3 e3 = (p4, e4, n4) := h4
    have g5 : numK 1 s p4 e4 = (p5, e5, n5) := h5
    unfold changeK
    rw [if_pos hc]
    unfold bindK retK
    simp only [g0, g1, g2, g3, g4, g5]
  have hk := of_decide_eq_true hc
  by_cases ht : n5 = 2
  · obtain ⟨p6, e6, n6, h6⟩ : ∃ q f a, numF s p5 e5 2 = (q, f, a) := ⟨_, _, _, rfl⟩
    have l6 : p6 ≤ s.size := by have := numF_place (e := e5) 2 l5; rw [h6] at this; exact this
    obtain ⟨p7, e7, n7, h7⟩ : ∃ q f a, textF s p6 e6 65535 = (q, f, a) := ⟨_, _, _, rfl⟩
    have l7 : p7 ≤ s.size := by have := textF_place (e := e6) 65535 l6; rw [h7] at this; exact this
    obtain ⟨p8, e8, n8, h8⟩ : ∃ q f a, numF s p7 e7 4 = (q, f, a) := ⟨_, _, _, rfl⟩
    have l8 : p8 ≤ s.size := by have := numF_place (e := e7) 4 l7; rw [h8] at this; exact this
    obtain ⟨p9, e9, n9, h9⟩ : ∃ q f a, numF s p8 e8 2 = (q, f, a) := ⟨_, _, _, rfl⟩
    have l9 : p9 ≤ s.size := by have := numF_place (e := e8) 2 l8; rw [h9] at this; exact this
    obtain ⟨p10, e10, n10, h10⟩ : ∃ q f a, boolF s p9 e9 = (q, f, a) := ⟨_, _, _, rfl⟩
    have l10 : p10 ≤ s.size := by have := boolF_place (e := e9) l9; rw [h10] at this; exact this
    refine ⟨p10, e10, { R with page := n0, op := ⟨n1, n2, ⟨n3.toArray⟩, ⟨n4.toArray⟩⟩, undo := n5, index := n6, key := ⟨n7.toArray⟩, rpage := n8, rslot := n9, live := n10 }, ?_, l10, rfl, rfl, rfl, fun w => xchange_long R ta da tc dc w hsz hle h0 h1 h2 h3 h4 h5 h6 h7 h8 h9 h10 ht⟩
    have g6 : numK 2 s p5 e5 = (p6, e6, n6) := h6
    have g7 : textK 65535 s p6 e6 = (p7, e7, n7) := h7
    have g8 : numK 4 s p7 e7 = (p8, e8, n8) := h8
    have g9 : numK 2 s p8 e8 = (p9, e9, n9) := h9
    have g10 : boolK s p9 e9 = (p10, e10, n10) := h10
    have hy : keyB { R with page := n0, op := ⟨n1, n2, ⟨n3.toArray⟩, ⟨n4.toArray⟩⟩, undo := n5 } = true := decide_eq_true ⟨hk, by show (n5 : Int) = 2; omega⟩
    show xkeyK (changeK R s p e).2.2 s (changeK R s p e).1 (changeK R s p e).2.1 = _
    rw [hC]
    unfold xkeyK
    simp only
    rw [if_pos hy]
    unfold bindK retK
    simp only [g6, g7, g8, g9, g10]
  · refine ⟨p5, e5, { R with page := n0, op := ⟨n1, n2, ⟨n3.toArray⟩, ⟨n4.toArray⟩⟩, undo := n5 }, ?_, l5, rfl, rfl, rfl, fun w => xchange_short R ta da tc dc w hsz hle h0 h1 h2 h3 h4 h5 ht⟩
    have hy : keyB { R with page := n0, op := ⟨n1, n2, ⟨n3.toArray⟩, ⟨n4.toArray⟩⟩, undo := n5 } = false := decide_eq_false fun x => ht (by have := x.2; have h2 : (n5 : Int) = 2 := this; omega)
    show xkeyK (changeK R s p e).2.2 s (changeK R s p e).1 (changeK R s p e).2.1 = _
    rw [hC]
    unfold xkeyK
    simp only
    rw [if_neg (by rw [hy]; simp)]
    rfl

end Go.Proofs.Ytndfjjcflbpdnaa

namespace Go.Proofs.Ytndfjjcflbpdnaa
open Go.RowKit Go.Sort
set_option linter.unusedVariables false

/-- An error that was met stays. -/
def ErrK {α : Type} (F : Tk α) : Prop := ∀ s p e, e ≠ 0 → (F s p e).2.1 ≠ 0

theorem SureK.errK {α : Type} {F : Tk α} (h : SureK F) : ErrK F := h.err
theorem ErrK.ret {α : Type} (v : α) : ErrK (retK v) := fun s p e h => h
theorem ErrK.bind {α β : Type} {F : Tk α} {G : α → Tk β} (hF : ErrK F) (hG : ∀ v, ErrK (G v)) : ErrK (bindK F G) := fun s p e h => hG _ _ _ _ (hF s p e h)
theorem ErrK.ite {α : Type} {F G : Tk α} (c : Prop) [Decidable c] (hF : ErrK F) (hG : ErrK G) : ErrK (if c then F else G) := by
  split
  · exact hF
  · exact hG
theorem ErrK.num (n : Nat) : ErrK (numK n) := (SureK.num n).errK
theorem ErrK.text (n : Nat) : ErrK (textK n) := (SureK.text n).errK
theorem ErrK.bool : ErrK boolK := SureK.bool.errK

theorem ErrK.txStep {F : Tk (List TxV)} (h : ErrK F) : ErrK (txStepK F) := h.bind fun _ => (ErrK.num 4).bind fun _ => (ErrK.num 1).bind fun _ => (ErrK.num 8).bind fun _ => (ErrK.num 8).bind fun _ => ErrK.ret _
theorem ErrK.diStep {F : Tk (List DiV)} (h : ErrK F) : ErrK (diStepK F) := h.bind fun _ => (ErrK.num 4).bind fun _ => (ErrK.num 8).bind fun _ => ErrK.ret _

theorem ErrK.xtxs (k : Nat) : ErrK (xtxsK k) := by
  induction k with
  | zero => exact ErrK.ret _
  | succ k ih =>
    intro s p e h
    show (if (xtxsK k s p e).2.1 ≠ 0 then xtxsK k s p e else txStepK (xtxsK k) s p e).2.1 ≠ 0
    split
    · exact ih s p e h
    · exact ih.txStep s p e h

theorem ErrK.xdis (k : Nat) : ErrK (xdisK k) := by
  induction k with
  | zero => exact ErrK.ret _
  | succ k ih =>
    intro s p e h
    show (if (xdisK k s p e).2.1 ≠ 0 then xdisK k s p e else diStepK (xdisK k) s p e).2.1 ≠ 0
    split
    · exact ih s p e h
    · exact ih.diStep s p e h

/-- Where a taker meets no error, its value is so. -/
def PostK {α : Type} (F : Tk α) (P : α → Prop) : Prop := BackK F (fun _ v => P v)

theorem PostK.ret {α : Type} {P : α → Prop} (v : α) (h : P v) : PostK (retK v) P := (BackK.ret v).mono fun l u ⟨_, hu⟩ => by subst hu; exact h

theorem PostK.bind {α β : Type} {F : Tk α} {G : α → Tk β} {P : α → Prop} {Q : β → Prop} (hF : PostK F P) (sG : ∀ v, ErrK (G v)) (hG : ∀ v, P v → PostK (G v) Q) : PostK (bindK F G) Q := by
  intro s p p' u hp h
  unfold bindK at h
  cases hft : F s p 0 with
  | mk p1 q =>
    obtain ⟨e1, v1⟩ := q
    rw [hft] at h
    simp only at h
    have he : e1 = 0 := by
      by_cases c : e1 = 0
      · exact c
      · have := sG v1 s p1 e1 c
        rw [h] at this
        exact absurd rfl this
    subst he
    obtain ⟨a1, a2, a3⟩ := hF s p p1 v1 hp hft
    obtain ⟨b1, b2, b3⟩ := hG v1 a3 s p1 p' u a2 h
    exact ⟨by omega, b2, b3⟩

theorem PostK.num (n : Nat) (hn : n ≤ 8) : PostK (numK n) (fun v => v < 2 ^ (8 * n)) := (BackK.num n hn).mono fun _ _ h => h.2
theorem PostK.text (m : Nat) (hm : m ≤ 65535) : PostK (textK m) (fun v => v.length ≤ m) := (BackK.text m hm).mono fun _ _ h => h.2
theorem PostK.bool : PostK boolK (fun _ => True) := BackK.bool.mono fun _ _ _ => trivial
theorem PostK.count (m : Nat) : PostK (countK m) (fun v => v ≤ m) := (BackK.count m).mono fun _ _ h => h.2
theorem PostK.ite {α : Type} {F G : Tk α} {P : α → Prop} (c : Prop) [Decidable c] (hF : PostK F P) (hG : PostK G P) : PostK (if c then F else G) P := by
  split
  · exact hF
  · exact hG

def TxFit (t : TxV) : Prop := (0 ≤ t.1 ∧ t.1 < 4294967296) ∧ (0 ≤ t.2.1 ∧ t.2.1 < 256) ∧ t.2.2.1 < 18446744073709551616 ∧ t.2.2.2 < 18446744073709551616
def DiFit (t : DiV) : Prop := t.1 < 4294967296 ∧ t.2 < 18446744073709551616

theorem PostK.txStep {F : Tk (List TxV)} {k : Nat} (h : PostK F (fun v => v.length = k ∧ ∀ t ∈ v, TxFit t)) : PostK (txStepK F) (fun v => v.length = k + 1 ∧ ∀ t ∈ v, TxFit t) := by
  unfold txStepK
  refine h.bind (fun _ => (ErrK.num 4).bind fun _ => (ErrK.num 1).bind fun _ => (ErrK.num 8).bind fun _ => (ErrK.num 8).bind fun _ => ErrK.ret _) fun L hL => ?_
  refine (PostK.num 4 (by omega)).bind (fun _ => (ErrK.num 1).bind fun _ => (ErrK.num 8).bind fun _ => (ErrK.num 8).bind fun _ => ErrK.ret _) fun a ha => ?_
  refine (PostK.num 1 (by omega)).bind (fun _ => (ErrK.num 8).bind fun _ => (ErrK.num 8).bind fun _ => ErrK.ret _) fun b hb => ?_
  refine (PostK.num 8 (by omega)).bind (fun _ => (ErrK.num 8).bind fun _ => ErrK.ret _) fun c hc => ?_
  refine (PostK.num 8 (by omega)).bind (fun _ => ErrK.ret _) fun d hd => ?_
  refine PostK.ret _ ⟨by simp [hL.1], fun t ht => ?_⟩
  rw [List.mem_append] at ht
  rcases ht with ht | ht
  · exact hL.2 t ht
  · simp only [List.mem_singleton] at ht
    subst ht
    exact ⟨by show 0 ≤ (a : Int) ∧ (a : Int) < _; omega, by show 0 ≤ (b : Int) ∧ (b : Int) < _; omega, by show c < _; omega, by show d < _; omega⟩

theorem PostK.diStep {F : Tk (List DiV)} {k : Nat} (h : PostK F (fun v => v.length = k ∧ ∀ t ∈ v, DiFit t)) : PostK (diStepK F) (fun v => v.length = k + 1 ∧ ∀ t ∈ v, DiFit t) := by
  unfold diStepK
  refine h.bind (fun _ => (ErrK.num 4).bind fun _ => (ErrK.num 8).bind fun _ => ErrK.ret _) fun L hL => ?_
  refine (PostK.num 4 (by omega)).bind (fun _ => (ErrK.num 8).bind fun _ => ErrK.ret _) fun a ha => ?_
  refine (PostK.num 8 (by omega)).bind (fun _ => ErrK.ret _) fun b hb => ?_
  refine PostK.ret _ ⟨by simp [hL.1], fun t ht => ?_⟩
  rw [List.mem_append] at ht
  rcases ht with ht | ht
  · exact hL.2 t ht
  · simp only [List.mem_singleton] at ht
    subst ht
    exact ⟨by show a < _; omega, by show b < _; omega⟩

theorem PostK.txs (k : Nat) : PostK (txsK k) (fun v => v.length = k ∧ ∀ t ∈ v, TxFit t) := by
  induction k with
  | zero => exact PostK.ret _ ⟨rfl, by simp⟩
  | succ k ih => exact ih.txStep
theorem PostK.dis (k : Nat) : PostK (disK k) (fun v => v.length = k ∧ ∀ t ∈ v, DiFit t) := by
  induction k with
  | zero => exact PostK.ret _ ⟨rfl, by simp⟩
  | succ k ih => exact ih.diStep

theorem PostK.xtxs (k : Nat) : PostK (xtxsK k) (fun v => v.length = k ∧ ∀ t ∈ v, TxFit t) := by
  induction k with
  | zero => exact PostK.ret _ ⟨rfl, by simp⟩
  | succ k ih =>
    intro s p p' v hp h
    have h' : (if (xtxsK k s p 0).2.1 ≠ 0 then xtxsK k s p 0 else txStepK (xtxsK k) s p 0) = (p', 0, v) := h
    split at h'
    · rename_i c; rw [h'] at c; exact absurd rfl c
    · exact ih.txStep s p p' v hp h'
theorem PostK.xdis (k : Nat) : PostK (xdisK k) (fun v => v.length = k ∧ ∀ t ∈ v, DiFit t) := by
  induction k with
  | zero => exact PostK.ret _ ⟨rfl, by simp⟩
  | succ k ih =>
    intro s p p' v hp h
    have h' : (if (xdisK k s p 0).2.1 ≠ 0 then xdisK k s p 0 else diStepK (xdisK k) s p 0) = (p', 0, v) := h
    split at h'
    · rename_i c; rw [h'] at c; exact absurd rfl c
    · exact ih.diStep s p p' v hp h'

end Go.Proofs.Ytndfjjcflbpdnaa

namespace Go.Proofs.Ytndfjjcflbpdnaa
open Go.RowKit Go.Sort
set_option linter.unusedVariables false

structure RecFit (r : RecV) : Prop where
  kind : 0 ≤ r.kind ∧ r.kind < 256
  tx : 0 ≤ r.tx ∧ r.tx < 4294967296
  prev : r.prev < 18446744073709551616
  next : r.next < 18446744073709551616
  page : r.page < 4294967296
  opk : 0 ≤ r.op.kind ∧ r.op.kind < 256
  opa : 0 ≤ r.op.at' ∧ r.op.at' < 65536
  opS : r.op.S.size ≤ 65535
  opT : r.op.old.size ≤ 65535
  undo : 0 ≤ r.undo ∧ r.undo < 256
  index : 0 ≤ r.index ∧ r.index < 65536
  key : r.key.size ≤ 65535
  rpage : r.rpage < 4294967296
  rslot : 0 ≤ r.rslot ∧ r.rslot < 65536
  tlen : r.txs.length ≤ 65535
  dlen : r.dirty.length ≤ 65535
  txs : ∀ t ∈ r.txs, TxFit t
  dirty : ∀ t ∈ r.dirty, DiFit t

theorem post_head : PostK headK RecFit := by
  unfold headK
  refine (PostK.num 1 (by omega)).bind (fun _ => (ErrK.num 4).bind fun _ => (ErrK.num 8).bind fun _ => ErrK.ret _) fun a ha => ?_
  refine (PostK.num 4 (by omega)).bind (fun _ => (ErrK.num 8).bind fun _ => ErrK.ret _) fun b hb => ?_
  refine (PostK.num 8 (by omega)).bind (fun _ => ErrK.ret _) fun c hc => ?_
  refine PostK.ret _ ?_
  unfold plainV
  exact ⟨by show 0 ≤ (a : Int) ∧ (a : Int) < _; omega, by show 0 ≤ (b : Int) ∧ (b : Int) < _; omega, by show c < _; omega, by first | (simp; done) | exact Nat.zero_le _, by first | (simp; done) | exact Nat.zero_le _, by first | (simp; done) | exact Nat.zero_le _, by first | (simp; done) | exact Nat.zero_le _, by first | (simp; done) | exact Nat.zero_le _, by first | (simp; done) | exact Nat.zero_le _, by first | (simp; done) | exact Nat.zero_le _, by first | (simp; done) | exact Nat.zero_le _, by first | (simp; done) | exact Nat.zero_le _, by first | (simp; done) | exact Nat.zero_le _, by first | (simp; done) | exact Nat.zero_le _, by first | (simp; done) | exact Nat.zero_le _, by first | (simp; done) | exact Nat.zero_le _, by first | (simp; done) | exact Nat.zero_le _, by first | (simp; done) | exact Nat.zero_le _⟩

theorem post_next (R : RecV) (h : RecFit R) : PostK (nextK R) RecFit := by
  unfold nextK
  refine PostK.ite _ ?_ (PostK.ret _ h)
  refine (PostK.num 8 (by omega)).bind (fun _ => ErrK.ret _) fun a ha => PostK.ret _ ?_
  exact ⟨h.kind, h.tx, h.prev, by show a < _; omega, h.page, h.opk, h.opa, h.opS, h.opT, h.undo, h.index, h.key, h.rpage, h.rslot, h.tlen, h.dlen, h.txs, h.dirty⟩

theorem post_change (R : RecV) (h : RecFit R) : PostK (changeK R) RecFit := by
  unfold changeK
  refine PostK.ite _ ?_ (PostK.ret _ h)
  refine (PostK.num 4 (by omega)).bind (fun _ => (ErrK.num 1).bind fun _ => (ErrK.num 2).bind fun _ => (ErrK.text _).bind fun _ => (ErrK.text _).bind fun _ => (ErrK.num 1).bind fun _ => ErrK.ret _) fun a ha => ?_
  refine (PostK.num 1 (by omega)).bind (fun _ => (ErrK.num 2).bind fun _ => (ErrK.text _).bind fun _ => (ErrK.text _).bind fun _ => (ErrK.num 1).bind fun _ => ErrK.ret _) fun b hb => ?_
  refine (PostK.num 2 (by omega)).bind (fun _ => (ErrK.text _).bind fun _ => (ErrK.text _).bind fun _ => (ErrK.num 1).bind fun _ => ErrK.ret _) fun c hc => ?_
  refine (PostK.text 65535 (by omega)).bind (fun _ => (ErrK.text _).bind fun _ => (ErrK.num 1).bind fun _ => ErrK.ret _) fun d hd => ?_
  refine (PostK.text 65535 (by omega)).bind (fun _ => (ErrK.num 1).bind fun _ => ErrK.ret _) fun f hf => ?_
  refine (PostK.num 1 (by omega)).bind (fun _ => ErrK.ret _) fun g hg => PostK.ret _ ?_
  exact ⟨h.kind, h.tx, h.prev, h.next, by show a < _; omega, by show 0 ≤ (b : Int) ∧ (b : Int) < _; omega, by show 0 ≤ (c : Int) ∧ (c : Int) < _; omega, by show (ByteArray.mk d.toArray).size ≤ _; rw [bytes_size]; exact hd, by show (ByteArray.mk f.toArray).size ≤ _; rw [bytes_size]; exact hf, by show 0 ≤ (g : Int) ∧ (g : Int) < _; omega, h.index, h.key, h.rpage, h.rslot, h.tlen, h.dlen, h.txs, h.dirty⟩

theorem post_keyOf (m : Nat) (hm : m ≤ 65535) (R : RecV) (h : RecFit R) : PostK (if keyB R then (bindK (numK 2) fun a => bindK (textK m) fun b => bindK (numK 4) fun c => bindK (numK 2) fun d => bindK boolK fun f => retK { R with index := a, key := ⟨b.toArray⟩, rpage := c, rslot := d, live := f }) else retK R) RecFit := by
  refine PostK.ite _ ?_ (PostK.ret _ h)
  refine (PostK.num 2 (by omega)).bind (fun _ => (ErrK.text _).bind fun _ => (ErrK.num 4).bind fun _ => (ErrK.num 2).bind fun _ => ErrK.bool.bind fun _ => ErrK.ret _) fun a ha => ?_
  refine (PostK.text m hm).bind (fun _ => (ErrK.num 4).bind fun _ => (ErrK.num 2).bind fun _ => ErrK.bool.bind fun _ => ErrK.ret _) fun b hb => ?_
  refine (PostK.num 4 (by omega)).bind (fun _ => (ErrK.num 2).bind fun _ => ErrK.bool.bind fun _ => ErrK.ret _) fun c hc => ?_
  refine (PostK.num 2 (by omega)).bind (fun _ => ErrK.bool.bind fun _ => ErrK.ret _) fun d hd => ?_
  refine PostK.bool.bind (fun _ => ErrK.ret _) fun f _ => PostK.ret _ ?_
  exact ⟨h.kind, h.tx, h.prev, h.next, h.page, h.opk, h.opa, h.opS, h.opT, h.undo, by show 0 ≤ (a : Int) ∧ (a : Int) < _; omega, by show (ByteArray.mk b.toArray).size ≤ _; rw [bytes_size]; exact Nat.le_trans hb hm, by show c < _; omega, by show 0 ≤ (d : Int) ∧ (d : Int) < _; omega, h.tlen, h.dlen, h.txs, h.dirty⟩

theorem post_lists (R : RecV) (h : RecFit R) : PostK (listsK R) RecFit := by
  unfold listsK
  refine PostK.ite _ ?_ (PostK.ret _ h)
  refine (PostK.count 64).bind (fun _ => (SureK.txs _).errK.bind fun _ => (SureK.count 256).errK.bind fun _ => (SureK.dis _).errK.bind fun _ => ErrK.ret _) fun a ha => ?_
  refine (PostK.txs a).bind (fun _ => (SureK.count 256).errK.bind fun _ => (SureK.dis _).errK.bind fun _ => ErrK.ret _) fun b hb => ?_
  refine (PostK.count 256).bind (fun _ => (SureK.dis _).errK.bind fun _ => ErrK.ret _) fun c hc => ?_
  refine (PostK.dis c).bind (fun _ => ErrK.ret _) fun d hd => PostK.ret _ ?_
  exact ⟨h.kind, h.tx, h.prev, h.next, h.page, h.opk, h.opa, h.opS, h.opT, h.undo, h.index, h.key, h.rpage, h.rslot, by show b.length ≤ _; omega, by show d.length ≤ _; omega, hb.2, hd.2⟩

theorem post_xlists (R : RecV) (h : RecFit R) : PostK (xlistsK R) RecFit := by
  unfold xlistsK
  refine PostK.ite _ ?_ (PostK.ret _ h)
  refine (PostK.num 2 (by omega)).bind (fun _ => (ErrK.xtxs _).bind fun _ => (ErrK.num 2).bind fun _ => (ErrK.xdis _).bind fun _ => ErrK.ret _) fun a ha => ?_
  refine (PostK.xtxs a).bind (fun _ => (ErrK.num 2).bind fun _ => (ErrK.xdis _).bind fun _ => ErrK.ret _) fun b hb => ?_
  refine (PostK.num 2 (by omega)).bind (fun _ => (ErrK.xdis _).bind fun _ => ErrK.ret _) fun c hc => ?_
  refine (PostK.xdis c).bind (fun _ => ErrK.ret _) fun d hd => PostK.ret _ ?_
  exact ⟨h.kind, h.tx, h.prev, h.next, h.page, h.opk, h.opa, h.opS, h.opT, h.undo, h.index, h.key, h.rpage, h.rslot, by show b.length ≤ _; omega, by show d.length ≤ _; omega, hb.2, hd.2⟩

theorem err_next (R : RecV) : ErrK (nextK R) := by unfold nextK; exact ErrK.ite _ ((ErrK.num 8).bind fun _ => ErrK.ret _) (ErrK.ret _)
theorem err_change (R : RecV) : ErrK (changeK R) := by unfold changeK; exact ErrK.ite _ ((ErrK.num 4).bind fun _ => (ErrK.num 1).bind fun _ => (ErrK.num 2).bind fun _ => (ErrK.text _).bind fun _ => (ErrK.text _).bind fun _ => (ErrK.num 1).bind fun _ => ErrK.ret _) (ErrK.ret _)
theorem err_key (R : RecV) : ErrK (keyK R) := by unfold keyK; exact ErrK.ite _ ((ErrK.num 2).bind fun _ => (ErrK.text _).bind fun _ => (ErrK.num 4).bind fun _ => (ErrK.num 2).bind fun _ => ErrK.bool.bind fun _ => ErrK.ret _) (ErrK.ret _)
theorem err_xkey (R : RecV) : ErrK (xkeyK R) := by unfold xkeyK; exact ErrK.ite _ ((ErrK.num 2).bind fun _ => (ErrK.text _).bind fun _ => (ErrK.num 4).bind fun _ => (ErrK.num 2).bind fun _ => ErrK.bool.bind fun _ => ErrK.ret _) (ErrK.ret _)
theorem err_lists (R : RecV) : ErrK (listsK R) := by unfold listsK; exact ErrK.ite _ ((SureK.count 64).errK.bind fun _ => (SureK.txs _).errK.bind fun _ => (SureK.count 256).errK.bind fun _ => (SureK.dis _).errK.bind fun _ => ErrK.ret _) (ErrK.ret _)
theorem err_xlists (R : RecV) : ErrK (xlistsK R) := by unfold xlistsK; exact ErrK.ite _ ((ErrK.num 2).bind fun _ => (ErrK.xtxs _).bind fun _ => (ErrK.num 2).bind fun _ => (ErrK.xdis _).bind fun _ => ErrK.ret _) (ErrK.ret _)

theorem post_rec : PostK recK RecFit := by
  unfold recK
  exact post_head.bind (fun a => (err_next a).bind fun b => (err_change b).bind fun c => (err_key c).bind fun d => err_lists d) fun a ha => (post_next a ha).bind (fun b => (err_change b).bind fun c => (err_key c).bind fun d => err_lists d) fun b hb => (post_change b hb).bind (fun c => (err_key c).bind fun d => err_lists d) fun c hc => (post_keyOf 64 (by omega) c hc).bind (fun d => err_lists d) fun d hd => post_lists d hd

theorem post_xrec : PostK xrecK RecFit := by
  unfold xrecK
  exact post_head.bind (fun a => (err_next a).bind fun b => (err_change b).bind fun c => (err_xkey c).bind fun d => err_xlists d) fun a ha => (post_next a ha).bind (fun b => (err_change b).bind fun c => (err_xkey c).bind fun d => err_xlists d) fun b hb => (post_change b hb).bind (fun c => (err_xkey c).bind fun d => err_xlists d) fun c hc => (post_keyOf 65535 (by omega) c hc).bind (fun d => err_xlists d) fun d hd => post_xlists d hd

theorem RecFit.wide {r : RecV} (h : RecFit r) : r.Wide :=
  ⟨fun i hi => ⟨(h.txs _ (List.getElem_mem hi)).2.2.1, (h.txs _ (List.getElem_mem hi)).2.2.2⟩, fun i hi => h.dirty _ (List.getElem_mem hi)⟩

theorem RecFit.ok {r : RecV} (h : RecFit r) (wx : World) (ta da : Option Addr) (h1 : TxsAt wx ta r.txs) (h2 : DisAt wx da r.dirty) : r.Ok wx ta da :=
  ⟨by have := h.kind; omega, by have := h.tx; omega, h.prev, h.next, h.page, ⟨by have := h.opk; omega, by have := h.opa; omega, by have := h.opS; omega, by have := h.opT; omega⟩, by have := h.undo; omega, by have := h.index; omega, by have := h.key; omega, h.rpage, by have := h.rslot; omega, by have := h.tlen; omega, by have := h.dlen; omega, h1, h2⟩

/-- Does the document accept? -/
def accX (s : ByteArray) : Prop := (xrecK s 0 0).2.1 = 0 ∧ (xrecK s 0 0).1 = s.size ∧ mayR (xrecK s 0 0).2.2 = true ∧ (⟨(encR (xrecK s 0 0).2.2).toArray⟩ : ByteArray) = s

/-- Where the document accepts, the program reads the same record, to the end. -/
theorem acc_reads {s : ByteArray} (h : accX s) : RecFit (xrecK s 0 0).2.2 ∧ readR s = (s.size, 0, (xrecK s 0 0).2.2) := by
  obtain ⟨h1, h2, h3, h4⟩ := h
  cases hx : xrecK s 0 0 with
  | mk p q =>
    obtain ⟨e, x⟩ := q
    rw [hx] at h1 h2 h3 h4
    simp only at h1 h2 h3 h4
    subst h1
    obtain ⟨_, _, hf⟩ := post_xrec s 0 p x (Nat.zero_le _) hx
    have hb := read_back (may_parts h3) hf.wide hf.prev hf.next hf.page hf.rpage
    have hl : s.data.toList = encR x := by rw [← h4]
    have := hb s [] [] (by simp [hl])
    refine ⟨hf, ?_⟩
    rw [recK_eq]
    have hs : (encR x).length = s.size := by rw [← hl]; simp
    rw [List.length_nil, hs, Nat.zero_add] at this
    exact this

/-- Where the program reads to the end, what it read is within bounds. -/
theorem reads_fit {s : ByteArray} {r : RecV} {p : Nat} (h : readR s = (p, 0, r)) : RecFit r := by
  rw [recK_eq] at h
  exact (post_rec s 0 p r (Nat.zero_le _) h).2.2

/-- Where the program accepts, the document does. -/
theorem reads_acc {s : ByteArray} {r : RecV} (h : readR s = (s.size, 0, r)) (hm : mayR r = true) : accX s := by
  have hf := reads_fit h
  rw [recK_eq] at h
  obtain ⟨_, _, hl⟩ := back_all s 0 s.size r (Nat.zero_le _) h
  have hp : part s 0 (s.size - 0) = s.data.toList := by
    unfold part
    rw [List.drop_zero, List.take_of_length_le (by simp)]
  rw [hp] at hl
  have hb := xread_back (may_parts hm) hf.wide hf.prev hf.next hf.page hf.rpage
  have hx := hb s [] [] (by simp [hl])
  have hs : (encR r).length = s.size := by rw [← hl]; simp
  rw [List.length_nil, hs, Nat.zero_add] at hx
  unfold accX
  rw [hx]
  refine ⟨rfl, rfl, hm, ?_⟩
  show (⟨(encR r).toArray⟩ : ByteArray) = s
  rw [← hl, bytes_self]

end Go.Proofs.Ytndfjjcflbpdnaa

namespace Go.Proofs.Ytndfjjcflbpdnaa
open Go.RowKit Go.Sort
set_option linter.unusedVariables false
set_option linter.unusedSimpArgs false

/-- Where the document's Decode stands. -/
structure DcR (w wx : World) (s : ByteArray) (p : Nat) (e : Int) (cs : Array Value) : Prop where
  bel : Below w.heap.size w wx
  z2 : BlkR wx w.heap.size zeroCellsR 43
  rd : BlkR wx (w.heap.size + 1) (rdCells s p e) 63
  rc : BlkR wx (w.heap.size + 1 + 1) cs 43
  sz : w.heap.size + 1 + 1 < wx.heap.size

section
variable {w wx wy : World} {s : ByteArray} {p : Nat} {e : Int} {cs : Array Value}

theorem DcR.start (w : World) (s : ByteArray) : DcR w (((w.alloc (.cells zeroCellsR 43)).alloc (.cells (rdCells s 0 0) 63)).alloc (.cells zeroCellsR 43)) s 0 0 zeroCellsR := by
  generalize hA : w.alloc (.cells zeroCellsR 43) = A
  have a1 : BlkR A w.heap.size zeroCellsR 43 := by rw [← hA]; exact heap_alloc_new w _
  have a2 : A.heap.size = w.heap.size + 1 := by rw [← hA]; simp
  have a3 : Below w.heap.size w A := by rw [← hA]; exact (Below.refl _ _).alloc (Nat.le_refl _) _
  generalize hB : A.alloc (.cells (rdCells s 0 0) 63) = B
  have b1 : BlkR B (w.heap.size + 1) (rdCells s 0 0) 63 := by rw [← hB, ← a2]; exact heap_alloc_new A _
  have b2 : B.heap.size = w.heap.size + 1 + 1 := by rw [← hB]; simp [a2]
  have b3 : Below A.heap.size A B := by rw [← hB]; exact (Below.refl _ _).alloc (Nat.le_refl _) _
  have d1 : BlkR (B.alloc (.cells zeroCellsR 43)) (w.heap.size + 1 + 1) zeroCellsR 43 := by rw [← b2]; exact heap_alloc_new B _
  have d3 : Below B.heap.size B (B.alloc (.cells zeroCellsR 43)) := (Below.refl _ _).alloc (Nat.le_refl _) _
  exact ⟨below_chain (below_chain a3 b3) d3, (a1.same (b3.block _ (by omega))).same (d3.block _ (by omega)), b1.same (d3.block _ (by omega)), d1, by simp; omega⟩

theorem DcR.call (h : DcR w wx s p e cs) (b : Below wx.heap.size wx wy) : DcR w wy s p e cs :=
  have := h.sz
  ⟨below_chain h.bel b, h.z2.same (b.block _ (by omega)), h.rd.same (b.block _ (by omega)), h.rc.same (b.block _ (by omega)), Nat.lt_of_lt_of_le h.sz b.size⟩

theorem DcR.cell (h : DcR w wx s p e cs) (i : Nat) (v : Value) : DcR w (wx.setCell ⟨w.heap.size + 1 + 1, i, none⟩ v) s p e (cs.setIfInBounds i v) :=
  ⟨h.bel.setCell (p := ⟨w.heap.size + 1 + 1, i, none⟩) (by show w.heap.size ≤ w.heap.size + 1 + 1; omega) _, h.z2.same (Below.heap_setCell _ _ _ _ (by simp; omega)), h.rd.same (Below.heap_setCell _ _ _ _ (by simp)), h.rc.set i v, by simpa using h.sz⟩

theorem DcR.read (h : DcR w wx s p e cs) (p' : Nat) (e' : Int) :
    DcR w (((wx.setCell ⟨w.heap.size + 1, 0, none⟩ (.string s)).setCell ⟨w.heap.size + 1, 1, none⟩ (.int .i64 p')).setCell ⟨w.heap.size + 1, 2, none⟩ (.int .i64 e')) s p' e' cs := by
  have st : ∀ k, k ≠ w.heap.size + 1 → (((wx.setCell ⟨w.heap.size + 1, 0, none⟩ (.string s)).setCell ⟨w.heap.size + 1, 1, none⟩ (.int .i64 p')).setCell ⟨w.heap.size + 1, 2, none⟩ (.int .i64 e')).heap[k]? = wx.heap[k]? := fun k hk => (Below.heap_setCell _ _ _ _ hk).trans ((Below.heap_setCell _ _ _ _ hk).trans (Below.heap_setCell _ _ _ _ hk))
  exact ⟨below_set3 h.bel (by omega) _ _ _, h.z2.same (st _ (by omega)), ((h.rd.set 0 _).set 1 _).set 2 _, h.rc.same (st _ (by omega)), by simpa using h.sz⟩

theorem DcR.row (h : DcR w wx s p e cs) (c : Array Value) : DcR w (wx.setRow (w.heap.size + 1 + 1) c) s p e c :=
  ⟨below_setRow h.bel (by omega) _, h.z2.same (setRow_other _ _ _ _ (by omega)), h.rd.same (setRow_other _ _ _ _ (by omega)), setRow_heap _ _ _ _ _ _ h.rc, by simpa using h.sz⟩

end

theorem dec_keep {w y : World} {ta da : Option Addr} {LT : List TxV} {LD : List DiV} {m : Nat} (hm : w.heap.size + 1 + 1 < m) (h : TxsAt y ta LT ∧ DisAt y da LD) (hn : NewR m ta ∧ NewR m da) (u0 u1 u2 : Value) (c : Array Value) :
    TxsAt ((((y.setCell ⟨w.heap.size + 1, 0, none⟩ u0).setCell ⟨w.heap.size + 1, 1, none⟩ u1).setCell ⟨w.heap.size + 1, 2, none⟩ u2).setRow (w.heap.size + 1 + 1) c) ta LT ∧ DisAt ((((y.setCell ⟨w.heap.size + 1, 0, none⟩ u0).setCell ⟨w.heap.size + 1, 1, none⟩ u1).setCell ⟨w.heap.size + 1, 2, none⟩ u2).setRow (w.heap.size + 1 + 1) c) da LD := by
  have k : ∀ b, m ≤ b → ((((y.setCell ⟨w.heap.size + 1, 0, none⟩ u0).setCell ⟨w.heap.size + 1, 1, none⟩ u1).setCell ⟨w.heap.size + 1, 2, none⟩ u2).setRow (w.heap.size + 1 + 1) c).heap[b]? = y.heap[b]? := fun b hb => by
    have h1 : b ≠ w.heap.size + 1 := by omega
    exact (setRow_other _ _ _ _ (by omega)).trans ((Below.heap_setCell _ _ _ _ h1).trans ((Below.heap_setCell _ _ _ _ h1).trans (Below.heap_setCell _ _ _ _ h1)))
  have hs : y.heap.size ≤ ((((y.setCell ⟨w.heap.size + 1, 0, none⟩ u0).setCell ⟨w.heap.size + 1, 1, none⟩ u1).setCell ⟨w.heap.size + 1, 2, none⟩ u2).setRow (w.heap.size + 1 + 1) c).heap.size := by simp [World.setRow]
  exact ⟨h.1.moved hn.1 k hs, h.2.moved hn.2 k hs⟩

theorem head_plain {s : ByteArray} {q0 q1 q2 : Nat} {f0 f1 f2 : Int} {a0 a1 a2 : Nat} (h0 : numF s 0 0 1 = (q0, f0, a0)) (h1 : numF s q0 f0 4 = (q1, f1, a1)) (h2 : numF s q1 f1 8 = (q2, f2, a2)) : headK s 0 0 = (q2, f2, plainV a0 a1 a2) := by
  have g0 : numK 1 s 0 0 = (q0, f0, a0) := h0
  have g1 : numK 4 s q0 f0 = (q1, f1, a1) := h1
  have g2 : numK 8 s q1 f1 = (q2, f2, a2) := h2
  unfold headK bindK retK
  simp only [g0, g1, g2]

theorem xrec_of {s : ByteArray} {p3 p4 p5 p6 : Nat} {e3 e4 e5 e6 : Int} {R1 R2 R3 R4 : RecV} (h1 : headK s 0 0 = (p3, e3, R1)) (h2 : nextK R1 s p3 e3 = (p4, e4, R2)) (h3 : bindK (changeK R2) xkeyK s p4 e4 = (p5, e5, R3)) (h4 : xlistsK R3 s p5 e5 = (p6, e6, R4)) : xrecK s 0 0 = (p6, e6, R4) := by
  unfold bindK at h3
  unfold xrecK bindK
  simp only [h1, h2]
  simp only [h3, h4]

theorem acc_iff {s : ByteArray} {p6 : Nat} {e6 : Int} {R4 : RecV} (h : xrecK s 0 0 = (p6, e6, R4)) : accX s ↔ e6 = 0 ∧ p6 = s.size ∧ mayR R4 = true ∧ (⟨(encR R4).toArray⟩ : ByteArray) = s := by
  unfold accX
  rw [h]

theorem xlists_of {s : ByteArray} {p p3 : Nat} {e e3 : Int} {R : RecV} {LT : List TxV} {LD : List DiV} (hl : listsB R = true) (h : (bindK (numK 2) fun a => bindK (xtxsK a) fun b => bindK (numK 2) fun c => bindK (xdisK c) fun d => retK (b, d)) s p e = (p3, e3, LT, LD)) : xlistsK R s p e = (p3, e3, { R with txs := LT, dirty := LD }) := by
  unfold xlistsK
  rw [if_pos hl]
  unfold bindK retK at h ⊢
  simp only [Prod.mk.injEq] at h ⊢
  obtain ⟨h1, h2, h3, h4⟩ := h
  refine ⟨h1, h2, ?_⟩
  rw [h3, h4]

end Go.Proofs.Ytndfjjcflbpdnaa
