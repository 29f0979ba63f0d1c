/-
  What a record's bytes are read as: a taker that meets no error reads the same of longer bytes; what was put is read again.
-/
import Derived.Test.YtlphebebnjcidaaGreatRecDecodeC
import Derived.Test.YtlphebebnjcidaaGreatRecPutsJ
set_option linter.unusedVariables false
set_option linter.unusedSimpArgs false
namespace Go.Proofs.YtlphebebnjcidaaGreat
open Go.RowKit Go.Sort

abbrev Tk (α : Type) := ByteArray → Nat → Int → Nat × Int × α

def bindK {α β : Type} (F : Tk α) (G : α → Tk β) : Tk β := fun s p e => G (F s p e).2.2 s (F s p e).1 (F s p e).2.1
def retK {α : Type} (v : α) : Tk α := fun s p e => (p, e, v)
def numK (n : Nat) : Tk Nat := fun s p e => numF s p e n
def textK (m : Nat) : Tk (List UInt8) := fun s p e => textF s p e m
def boolK : Tk Bool := fun s p e => boolF s p e
def countK (m : Nat) : Tk Nat := fun s p e => countF s p e m
def txsK (k : Nat) : Tk (List TxV) := fun s p e => txK s p e k
def disK (k : Nat) : Tk (List DiV) := fun s p e => dirK s p e k

def IsPre (t s : ByteArray) : Prop := ∃ z, s.data.toList = t.data.toList ++ z

theorem IsPre.size {t s : ByteArray} (h : IsPre t s) : t.size ≤ s.size := by
  obtain ⟨z, hz⟩ := h
  have := congrArg List.length hz
  simp at this
  omega

theorem IsPre.part {t s : ByteArray} (h : IsPre t s) {p n : Nat} (hn : p + n ≤ t.size) : part s p n = part t p n := by
  obtain ⟨z, hz⟩ := h
  have hl : t.data.toList.length = t.size := by simp
  unfold Go.Proofs.YtlphebebnjcidaaGreat.part
  rw [hz, List.drop_append_of_le_length (by omega), List.take_append_of_le_length (by rw [List.length_drop]; omega)]

structure SureK {α : Type} (F : Tk α) : Prop where
  err : ∀ s p e, e ≠ 0 → (F s p e).2.1 ≠ 0
  ext : ∀ t s p p' v, IsPre t s → p ≤ t.size → F t p 0 = (p', 0, v) → p ≤ p' ∧ p' ≤ t.size ∧ F s p 0 = (p', 0, v)

theorem SureK.ret {α : Type} (v : α) : SureK (retK v) := by
  refine ⟨fun s p e h => h, fun t s p p' u hp hl h => ?_⟩
  simp only [retK, Prod.mk.injEq] at h
  obtain ⟨rfl, _, rfl⟩ := h
  exact ⟨Nat.le_refl _, hl, rfl⟩

theorem SureK.bind {α β : Type} {F : Tk α} {G : α → Tk β} (hF : SureK F) (hG : ∀ v, SureK (G v)) : SureK (bindK F G) := by
  refine ⟨fun s p e h => (hG _).err _ _ _ (hF.err s p e h), fun t s p p' v hp hl h => ?_⟩
  unfold bindK at h ⊢
  cases hft : F t p 0 with
  | mk p1 q =>
    obtain ⟨e1, v1⟩ := q
    rw [hft] at h
    simp only at h
    have he : e1 = 0 := by
      by_cases c : e1 = 0
      · exact c
      · have := (hG v1).err t p1 e1 c
        rw [h] at this
        exact absurd rfl this
    subst he
    obtain ⟨a1, a2, a3⟩ := hF.ext t s p p1 v1 hp hl hft
    obtain ⟨b1, b2, b3⟩ := (hG v1).ext t s p1 p' v hp a2 h
    rw [a3]
    exact ⟨by omega, b2, b3⟩

theorem SureK.ite {α : Type} {F G : Tk α} (c : Prop) [Decidable c] (hF : SureK F) (hG : SureK G) : SureK (if c then F else G) := by
  split
  · exact hF
  · exact hG

theorem SureK.num (n : Nat) : SureK (numK n) := by
  refine ⟨fun s p e h => by unfold numK numF; rw [if_pos h]; exact h, fun t s p p' v hp hl h => ?_⟩
  have hz := hp.size
  unfold numK numF at h ⊢
  rw [if_neg (by simp)] at h ⊢
  by_cases c1 : (n : Int) < 0 ∨ 8 < (n : Int)
  · rw [if_pos c1] at h; simp at h
  · rw [if_neg c1] at h ⊢
    rw [Int.toNat_natCast] at h ⊢
    by_cases c2 : t.size < p + n
    · rw [if_pos c2] at h; simp at h
    · rw [if_neg c2] at h
      simp only [Prod.mk.injEq, true_and] at h
      rw [if_neg (by omega), hp.part (by omega)]
      exact ⟨by omega, by omega, by rw [h.1, h.2]⟩

theorem SureK.text (m : Nat) : SureK (textK m) := by
  refine ⟨fun s p e h => by unfold textK textF; rw [if_pos h]; exact h, fun t s p p' v hp hl h => ?_⟩
  have hz := hp.size
  unfold textK textF at h ⊢
  rw [if_neg (by simp)] at h ⊢
  by_cases c1 : t.size < p + 2
  · rw [if_pos c1] at h; simp at h
  rw [if_neg c1] at h
  rw [if_neg (by omega), hp.part (by omega)]
  by_cases c2 : (m : Int) < (le (part t p 2) : Int)
  · rw [if_pos c2] at h; simp at h
  rw [if_neg c2] at h ⊢
  by_cases c3 : t.size < p + 2 + le (part t p 2)
  · rw [if_pos c3] at h; simp at h
  rw [if_neg c3] at h
  simp only [Prod.mk.injEq, true_and] at h
  rw [if_neg (by omega), hp.part (by omega)]
  exact ⟨by omega, by omega, by rw [h.1, h.2]⟩

theorem SureK.bool : SureK boolK := by
  refine ⟨fun s p e h => by unfold boolK boolF; rw [if_pos h]; exact h, fun t s p p' v hp hl h => ?_⟩
  have hz := hp.size
  unfold boolK boolF at h ⊢
  rw [if_neg (by simp)] at h ⊢
  by_cases c1 : t.size < p + 1
  · rw [if_pos c1] at h; simp at h
  rw [if_neg c1] at h
  rw [if_neg (by omega), hp.part (by omega)]
  by_cases c2 : 1 < le (part t p 1)
  · rw [if_pos c2] at h; simp at h
  rw [if_neg c2] at h ⊢
  simp only [Prod.mk.injEq, true_and] at h
  exact ⟨by omega, by omega, by rw [h.1, h.2]⟩

theorem SureK.count (m : Nat) : SureK (countK m) := by
  refine ⟨fun s p e h => ?_, fun t s p p' v hp hl h => ?_⟩
  · have hn : (numF s p e 2).2.1 ≠ 0 := (SureK.num 2).err s p e h
    unfold countK countF
    split
    · show failE (numF s p e 2).2.1 3 ≠ 0
      unfold failE
      rw [if_neg hn]; exact hn
    · exact hn
  · unfold countK countF at h ⊢
    by_cases c : m < (numF t p 0 2).2.2
    · rw [if_pos c] at h
      simp only [Prod.mk.injEq, failE] at h
      split at h <;> simp_all
    · rw [if_neg c] at h
      have hx := (SureK.num 2).ext t s p p' v hp hl h
      have h2 : numF s p 0 2 = (p', 0, v) := hx.2.2
      have h1 : numF t p 0 2 = (p', 0, v) := h
      rw [h1] at c
      rw [h2, if_neg c]
      exact ⟨hx.1, hx.2.1, rfl⟩

theorem SureK.txs (k : Nat) : SureK (txsK k) := by
  induction k with
  | zero => exact SureK.ret _
  | succ k ih =>
    have : txsK (k + 1) = bindK (txsK k) fun L => bindK (numK 4) fun a => bindK (numK 1) fun b => bindK (numK 8) fun c => bindK (numK 8) fun d => retK (L ++ [((a : Int), (b : Int), c, d)]) := rfl
    rw [this]
    exact ih.bind fun _ => (SureK.num 4).bind fun _ => (SureK.num 1).bind fun _ => (SureK.num 8).bind fun _ => (SureK.num 8).bind fun _ => SureK.ret _

theorem SureK.dis (k : Nat) : SureK (disK k) := by
  induction k with
  | zero => exact SureK.ret _
  | succ k ih =>
    have : disK (k + 1) = bindK (disK k) fun L => bindK (numK 4) fun a => bindK (numK 8) fun b => retK (L ++ [(a, b)]) := rfl
    rw [this]
    exact ih.bind fun _ => (SureK.num 4).bind fun _ => (SureK.num 8).bind fun _ => SureK.ret _

def headK : Tk RecV := bindK (numK 1) fun a => bindK (numK 4) fun b => bindK (numK 8) fun c => retK (plainV a b c)
def nextK (R : RecV) : Tk RecV := if nextB R then (bindK (numK 8) fun a => retK { R with next := a }) else retK R
def changeK (R : RecV) : Tk RecV := if changeB R then (bindK (numK 4) fun a => bindK (numK 1) fun b => bindK (numK 2) fun c => bindK (textK 65535) fun d => bindK (textK 65535) fun f => bindK (numK 1) fun g => retK { R with page := a, op := ⟨b, c, ⟨d.toArray⟩, ⟨f.toArray⟩⟩, undo := g }) else retK R
def keyK (R : RecV) : Tk RecV := if keyB R then (bindK (numK 2) fun a => bindK (textK 64) fun b => bindK (numK 4) fun c => bindK (numK 2) fun d => bindK boolK fun f => retK { R with index := a, key := ⟨b.toArray⟩, rpage := c, rslot := d, live := f }) else retK R
def listsK (R : RecV) : Tk RecV := if listsB R then (bindK (countK 64) fun a => bindK (txsK a) fun b => bindK (countK 256) fun c => bindK (disK c) fun d => retK { R with txs := b, dirty := d }) else retK R
def recK : Tk RecV := bindK headK fun a => bindK (nextK a) fun b => bindK (changeK b) fun c => bindK (keyK c) fun d => listsK d

theorem nextK_eq (R : RecV) : nextK R = fun s p e => rnextF s p e R := by
  funext s p e
  unfold nextK rnextF
  cases nextB R <;> rfl
theorem changeK_eq (R : RecV) : changeK R = fun s p e => changeF s p e R := by
  funext s p e
  unfold changeK changeF
  cases changeB R <;> rfl
theorem keyK_eq (R : RecV) : keyK R = fun s p e => keyF s p e R := by
  funext s p e
  unfold keyK keyF
  cases keyB R <;> rfl
theorem listsK_eq (R : RecV) : listsK R = fun s p e => listsF s p e R := by
  funext s p e
  unfold listsK listsF
  cases listsB R <;> rfl

theorem recK_eq (s : ByteArray) : readR s = recK s 0 0 := by
  unfold recK readR bindK
  simp only [nextK_eq, changeK_eq, keyK_eq, listsK_eq]
  rfl

theorem SureK.all : SureK recK := by
  unfold recK headK
  refine ((SureK.num 1).bind fun _ => (SureK.num 4).bind fun _ => (SureK.num 8).bind fun _ => SureK.ret _).bind fun a => SureK.bind ?_ fun b => SureK.bind ?_ fun c => SureK.bind ?_ fun d => ?_
  · unfold nextK
    exact SureK.ite _ ((SureK.num 8).bind fun _ => SureK.ret _) (SureK.ret _)
  · unfold changeK
    exact SureK.ite _ ((SureK.num 4).bind fun _ => (SureK.num 1).bind fun _ => (SureK.num 2).bind fun _ => (SureK.text _).bind fun _ => (SureK.text _).bind fun _ => (SureK.num 1).bind fun _ => SureK.ret _) (SureK.ret _)
  · unfold keyK
    exact SureK.ite _ ((SureK.num 2).bind fun _ => (SureK.text _).bind fun _ => (SureK.num 4).bind fun _ => (SureK.num 2).bind fun _ => SureK.bool.bind fun _ => SureK.ret _) (SureK.ret _)
  · unfold listsK
    exact SureK.ite _ ((SureK.count 64).bind fun _ => (SureK.txs _).bind fun _ => (SureK.count 256).bind fun _ => (SureK.dis _).bind fun _ => SureK.ret _) (SureK.ret _)

def PutsK {α : Type} (F : Tk α) (l : List UInt8) (v : α) : Prop := ∀ (s : ByteArray) (pre post : List UInt8), s.data.toList = pre ++ (l ++ post) → F s pre.length 0 = (pre.length + l.length, 0, v)

theorem PutsK.ret {α : Type} (v : α) : PutsK (retK v) [] v := fun s pre post h => rfl

theorem PutsK.bind {α β : Type} {F : Tk α} {G : α → Tk β} {l m : List UInt8} {v : α} {u : β} (hF : PutsK F l v) (hG : PutsK (G v) m u) : PutsK (bindK F G) (l ++ m) u := by
  intro s pre post h
  unfold bindK
  have h1 := hF s pre (m ++ post) (by rw [h]; simp)
  rw [h1]
  have h2 := hG s (pre ++ l) post (by rw [h]; simp)
  rw [List.length_append] at h2
  rw [h2, List.length_append, Nat.add_assoc]

theorem PutsK.bind0 {α β : Type} {F : Tk α} {G : α → Tk β} {l : List UInt8} {v : α} {u : β} (hF : PutsK F l v) (hG : PutsK (G v) [] u) : PutsK (bindK F G) l u := by
  have := hF.bind hG
  rwa [List.append_nil] at this

theorem PutsK.num {n x : Nat} (hn : n ≤ 8) (hx : x < 2 ^ (8 * n)) : PutsK (numK n) (putL x n) x := by
  intro s pre post h
  have hs := congrArg List.length h
  simp [putL_length] at hs
  unfold numK
  rw [numF_ok n hn (by omega), part_at h rfl (by rw [putL_length]), le_putL, Nat.mod_eq_of_lt hx, putL_length]

theorem PutsK.text {m : Nat} {S : ByteArray} (h1 : S.size ≤ m) (h2 : m ≤ 65535) : PutsK (textK m) (textB S) S.data.toList := by
  intro s pre post h
  have hl : S.data.toList.length = S.size := by simp
  unfold textB at h ⊢
  rw [if_pos (by omega)] at h ⊢
  have hs := congrArg List.length h
  simp [putL_length] at hs
  have hp : part s pre.length 2 = putL S.size 2 := part_at (post := S.data.toList ++ post) (by rw [h]; simp) rfl (by rw [putL_length])
  have hv : le (part s pre.length 2) = S.size := by rw [hp, le_putL, Nat.mod_eq_of_lt (by omega)]
  unfold textK
  rw [textF_ok m (by rw [hv]; omega) (by rw [hv]; omega), hv, List.length_append, putL_length, hl]
  have hq : part s (pre.length + 2) S.size = S.data.toList := part_at (pre := pre ++ putL S.size 2) (post := post) (by rw [h]; simp) (by rw [List.length_append, putL_length]) hl.symm
  rw [hq, Nat.add_assoc]

theorem PutsK.bool (b : Bool) : PutsK boolK (putL b.toNat 1) b := by
  intro s pre post h
  have hs := congrArg List.length h
  simp [putL_length] at hs
  have hb : b.toNat ≤ 1 := by cases b <;> decide
  have hp : part s pre.length 1 = putL b.toNat 1 := part_at h rfl (by rw [putL_length])
  have hv : le (part s pre.length 1) = b.toNat := by rw [hp, le_putL, Nat.mod_eq_of_lt (by omega)]
  unfold boolK boolF
  rw [if_neg (by simp), if_neg (by omega), hv, if_neg (by omega), putL_length]
  cases b <;> rfl

theorem PutsK.count {m n : Nat} (h1 : n ≤ m) (h2 : m ≤ 65535) : PutsK (countK m) (putL n 2) n := by
  intro s pre post h
  have hn : numF s pre.length 0 2 = (pre.length + (putL n 2).length, 0, n) := PutsK.num (n := 2) (by omega) (by omega) s pre post h
  unfold countK countF
  rw [hn, if_neg (by show ¬ m < n; omega)]

theorem PutsK.txs (L : List TxV) (h : ∀ t ∈ L, (0 ≤ t.1 ∧ t.1 ≤ 2147483647) ∧ (1 ≤ t.2.1 ∧ t.2.1 ≤ 3) ∧ t.2.2.1 < 18446744073709551616 ∧ t.2.2.2 < 18446744073709551616) (k : Nat) (hk : k ≤ L.length) : PutsK (txsK k) ((L.take k).flatMap txL) (L.take k) := by
  induction k with
  | zero => exact PutsK.ret _
  | succ k ih =>
    have hlt : k < L.length := by omega
    obtain ⟨h1, h2, h3, h4⟩ := h L[k] (List.getElem_mem _)
    have e1 : ((L[k].1.toNat : Nat) : Int) = L[k].1 := by omega
    have e2 : ((L[k].2.1.toNat : Nat) : Int) = L[k].2.1 := by omega
    have : txsK (k + 1) = bindK (txsK k) fun L => bindK (numK 4) fun a => bindK (numK 1) fun b => bindK (numK 8) fun c => bindK (numK 8) fun d => retK (L ++ [((a : Int), (b : Int), c, d)]) := rfl
    rw [this, List.take_succ_eq_append_getElem hlt, List.flatMap_append]
    refine (ih (by omega)).bind ?_
    simp only [List.flatMap_cons, List.flatMap_nil, List.append_nil]
    unfold txL
    refine (PutsK.num (by omega) (by omega)).bind ((PutsK.num (by omega) (by omega)).bind ((PutsK.num (by omega) (by omega)).bind ((PutsK.num (by omega) (by omega)).bind0 ?_)))
    rw [e1, e2]
    exact PutsK.ret _

theorem PutsK.dis (L : List DiV) (h : ∀ t ∈ L, t.1 < 4294967296 ∧ t.2 < 18446744073709551616) (k : Nat) (hk : k ≤ L.length) : PutsK (disK k) ((L.take k).flatMap diL) (L.take k) := by
  induction k with
  | zero => exact PutsK.ret _
  | succ k ih =>
    have hlt : k < L.length := by omega
    obtain ⟨h1, h2⟩ := h L[k] (List.getElem_mem _)
    have : disK (k + 1) = bindK (disK k) fun L => bindK (numK 4) fun a => bindK (numK 8) fun b => retK (L ++ [(a, b)]) := rfl
    rw [this, List.take_succ_eq_append_getElem hlt, List.flatMap_append]
    refine (ih (by omega)).bind ?_
    simp only [List.flatMap_cons, List.flatMap_nil, List.append_nil]
    unfold diL
    exact (PutsK.num (by omega) (by omega)).bind ((PutsK.num (by omega) (by omega)).bind0 (PutsK.ret _))

theorem bytes_listR (s : ByteArray) : s = ⟨s.data.toList.toArray⟩ := by cases s; simp

theorem sameR_eq {a b : RecV} (h : sameR a b = true) : a = b := by
  unfold sameR at h
  simp only [Bool.and_eq_true, decide_eq_true_eq] at h
  obtain ⟨k1, t1, p1, n1, g1, o1, u1, i1, e1, rp1, rs1, l1, tx1, d1⟩ := a
  obtain ⟨k2, t2, p2, n2, g2, o2, u2, i2, e2, rp2, rs2, l2, tx2, d2⟩ := b
  obtain ⟨o1k, o1a, o1S, o1o⟩ := o1
  obtain ⟨o2k, o2a, o2S, o2o⟩ := o2
  simp only [and_assoc] at h
  simp_all

theorem read_back {r : RecV} (hm : MayR r) (hw : r.Wide) (hprev : r.prev < 18446744073709551616) (hnext : r.next < 18446744073709551616) (hpage : r.page < 4294967296) (hrp : r.rpage < 4294967296) : PutsK recK (encR r) r := by
  have hr : r = namedV r := sameR_eq hm.same
  have ek : ((r.kind.toNat : Nat) : Int) = r.kind := by have := hm.kind; omega
  have et : ((r.tx.toNat : Nat) : Int) = r.tx := by have := hm.tx; omega
  unfold recK encR
  have hh : PutsK headK (putL r.kind.toNat 1 ++ (putL r.tx.toNat 4 ++ putL r.prev 8)) (plainV r.kind.toNat r.tx.toNat r.prev) := by
    unfold headK
    have h1 := hm.kind
    have h2 := hm.tx
    exact (PutsK.num (by omega) (by omega)).bind ((PutsK.num (by omega) (by omega)).bind ((PutsK.num (by omega) (by omega)).bind0 (PutsK.ret _)))
  rw [show putL r.kind.toNat 1 ++ (putL r.tx.toNat 4 ++ (putL r.prev 8 ++ ((if nextB r then putL r.next 8 else []) ++ ((if changeB r then changeL r else []) ++ ((if keyB r then rkeyL r else []) ++ (if listsB r then txsL r.txs ++ disL r.dirty else [])))))) = (putL r.kind.toNat 1 ++ (putL r.tx.toNat 4 ++ putL r.prev 8)) ++ ((if nextB r then putL r.next 8 else []) ++ ((if changeB r then changeL r else []) ++ ((if keyB r then rkeyL r else []) ++ (if listsB r then txsL r.txs ++ disL r.dirty else [])))) from by simp]
  refine hh.bind ?_
  -- the record as it grows
  obtain ⟨R0, hR0⟩ : ∃ R0, plainV r.kind.toNat r.tx.toNat r.prev = R0 := ⟨_, rfl⟩
  obtain ⟨R1, hR1⟩ : ∃ R1 : RecV, { R0 with next := if nextB r then r.next else 0 } = R1 := ⟨_, rfl⟩
  obtain ⟨R2, hR2⟩ : ∃ R2 : RecV, { R1 with page := if changeB r then r.page else 0, op := if changeB r then r.op else ⟨0, 0, ⟨#[]⟩, ⟨#[]⟩⟩, undo := if changeB r then r.undo else 0 } = R2 := ⟨_, rfl⟩
  obtain ⟨R3, hR3⟩ : ∃ R3 : RecV, { R2 with index := if keyB r then r.index else 0, key := if keyB r then r.key else ⟨#[]⟩, rpage := if keyB r then r.rpage else 0, rslot := if keyB r then r.rslot else 0, live := if keyB r then r.live else false } = R3 := ⟨_, rfl⟩
  have k0 : R0.kind = r.kind := by rw [← hR0]; exact ek
  have k1 : R1.kind = r.kind := by rw [← hR1]; exact k0
  have k2 : R2.kind = r.kind := by rw [← hR2]; exact k1
  have k3 : R3.kind = r.kind := by rw [← hR3]; exact k2
  have b0 : nextB R0 = nextB r := by unfold nextB; rw [k0]
  have b1 : changeB R1 = changeB r := by unfold changeB; rw [k1]
  have b2 : keyB R2 = keyB r := by
    unfold keyB
    rw [k2, show R2.undo = if changeB r then r.undo else 0 from by rw [← hR2]]
    by_cases c : r.kind = 1 ∨ r.kind = 2
    · have : changeB r = true := by unfold changeB; simpa using c
      rw [this]; simp
    · simp [c]
  have b3 : listsB R3 = listsB r := by unfold listsB; rw [k3]
  rw [hR0]
  have hN : PutsK (nextK R0) (if nextB r then putL r.next 8 else []) R1 := by
    unfold nextK
    rw [b0]
    cases hb : nextB r with
    | true =>
      rw [hb] at hR1
      rw [if_pos rfl, if_pos rfl]
      refine (PutsK.num (by omega) (by omega)).bind0 ?_
      rw [← hR1]
      exact PutsK.ret _
    | false =>
      rw [hb] at hR1
      have : R1 = R0 := by rw [← hR1, ← hR0]; rfl
      rw [this]
      exact PutsK.ret _
  refine hN.bind ?_
  have hC : PutsK (changeK R1) (if changeB r then changeL r else []) R2 := by
    unfold changeK
    rw [b1]
    cases hb : changeB r with
    | true =>
      obtain ⟨c1, c2, c3, c4, c5, c6⟩ := hm.change hb
      rw [hb] at hR2
      rw [if_pos rfl, if_pos rfl]
      unfold changeL
      refine (PutsK.num (by omega) (by omega)).bind ((PutsK.num (by omega) (by omega)).bind ((PutsK.num (by omega) (by omega)).bind ((PutsK.text (by omega) (by omega)).bind ((PutsK.text (by omega) (by omega)).bind ((PutsK.num (by omega) (by omega)).bind0 ?_)))))
      rw [← hR2]
      have a1 : ((r.op.kind.toNat : Nat) : Int) = r.op.kind := by omega
      have a2 : ((r.op.at'.toNat : Nat) : Int) = r.op.at' := by omega
      have a3 : ((r.undo.toNat : Nat) : Int) = r.undo := by omega
      rw [a1, a2, a3, ← bytes_listR, ← bytes_listR]
      exact PutsK.ret _
    | false =>
      rw [hb] at hR2
      have : R2 = R1 := by rw [← hR2, ← hR1, ← hR0]; rfl
      rw [this]
      exact PutsK.ret _
  refine hC.bind ?_
  have hK : PutsK (keyK R2) (if keyB r then rkeyL r else []) R3 := by
    unfold keyK
    rw [b2]
    cases hb : keyB r with
    | true =>
      obtain ⟨c1, c2, c3⟩ := hm.key hb
      rw [hb] at hR3
      rw [if_pos rfl, if_pos rfl]
      unfold rkeyL
      refine (PutsK.num (by omega) (by omega)).bind ((PutsK.text (by omega) (by omega)).bind ((PutsK.num (by omega) (by omega)).bind ((PutsK.num (by omega) (by omega)).bind ((PutsK.bool _).bind0 ?_))))
      rw [← hR3]
      have a1 : ((r.index.toNat : Nat) : Int) = r.index := by omega
      have a2 : ((r.rslot.toNat : Nat) : Int) = r.rslot := by omega
      rw [a1, a2, ← bytes_listR]
      exact PutsK.ret _
    | false =>
      rw [hb] at hR3
      have : R3 = R2 := by rw [← hR3, ← hR2, ← hR1, ← hR0]; rfl
      rw [this]
      exact PutsK.ret _
  refine hK.bind ?_
  have hfin : ({ R3 with txs := if listsB r then r.txs else [], dirty := if listsB r then r.dirty else [] } : RecV) = r := by
    conv => rhs; rw [hr]
    rw [← hR3, ← hR2, ← hR1, ← hR0]
    unfold plainV namedV
    simp only [ek, et]
  unfold listsK
  rw [b3]
  cases hb : listsB r with
  | true =>
    obtain ⟨c1, c2, c3⟩ := hm.lists hb
    rw [hb] at hfin
    rw [if_pos rfl, if_pos rfl]
    have hT := PutsK.txs r.txs (fun t ht => by
      obtain ⟨i, hi, rfl⟩ := List.mem_iff_getElem.1 ht
      have := c3 _ ht
      have := hw.txs i hi
      exact ⟨by omega, by omega, by omega, by omega⟩) r.txs.length (Nat.le_refl _)
    have hD := PutsK.dis r.dirty (fun t ht => by
      obtain ⟨i, hi, rfl⟩ := List.mem_iff_getElem.1 ht
      exact hw.dirty i hi) r.dirty.length (Nat.le_refl _)
    rw [List.take_length] at hT hD
    unfold txsL disL
    rw [List.append_assoc]
    refine (PutsK.count c1 (by omega)).bind (hT.bind ((PutsK.count c2 (by omega)).bind (hD.bind0 ?_)))
    rw [← hfin]
    exact PutsK.ret _
  | false =>
    rw [hb] at hfin
    have : R3 = r := by
      rw [← hfin, ← hR3, ← hR2, ← hR1, ← hR0]; rfl
    rw [this]
    exact PutsK.ret _

theorem enc_reads {r : RecV} (hm : MayR r) (hw : r.Wide) (hprev : r.prev < 18446744073709551616) (hnext : r.next < 18446744073709551616) (hpage : r.page < 4294967296) (hrp : r.rpage < 4294967296) :
    (∀ k, k < (encR r).length → endE ((ByteArray.mk (encR r).toArray).extract 0 k) (readR ((ByteArray.mk (encR r).toArray).extract 0 k)).1 (readR ((ByteArray.mk (encR r).toArray).extract 0 k)).2.1 ≠ 0) ∧
    (∀ z : ByteArray, readR (ByteArray.mk (encR r).toArray ++ z) = ((encR r).length, 0, r)) := by
  have hb := read_back hm hw hprev hnext hpage hrp
  have hall : ∀ z : ByteArray, readR (ByteArray.mk (encR r).toArray ++ z) = ((encR r).length, 0, r) := fun z => by
    rw [recK_eq]
    have := hb (ByteArray.mk (encR r).toArray ++ z) [] z.data.toList (by simp [ByteArray.data_append])
    simpa using this
  refine ⟨fun k hk he => ?_, hall⟩
  obtain ⟨t, ht⟩ : ∃ t, (ByteArray.mk (encR r).toArray).extract 0 k = t := ⟨_, rfl⟩
  rw [ht] at he
  have hsz : (ByteArray.mk (encR r).toArray).size = (encR r).length := by show (encR r).toArray.size = _; simp
  have hts : t.size = k := by rw [← ht, ByteArray.size_extract, hsz]; omega
  have hpre : IsPre t (ByteArray.mk (encR r).toArray) := by
    refine ⟨(encR r).drop k, ?_⟩
    rw [← ht, ByteArray.data_extract, Array.toList_extract, List.extract_eq_take_drop]
    simp
  have hf : readR (ByteArray.mk (encR r).toArray) = ((encR r).length, 0, r) := by
    have := hall ⟨#[]⟩
    rwa [show ByteArray.mk (encR r).toArray ++ (⟨#[]⟩ : ByteArray) = ByteArray.mk (encR r).toArray from by apply ByteArray.ext; simp [ByteArray.data_append]] at this
  cases hq : readR t with
  | mk p q =>
    obtain ⟨e, v⟩ := q
    rw [hq] at he
    unfold endE at he
    simp only at he
    split at he
    · cases he
    · subst he
      rw [recK_eq] at hq hf
      obtain ⟨_, h2, h3⟩ := SureK.all.ext t _ 0 p v hpre (Nat.zero_le _) hq
      rw [hf] at h3
      simp only [Prod.mk.injEq] at h3
      omega

end Go.Proofs.YtlphebebnjcidaaGreat
