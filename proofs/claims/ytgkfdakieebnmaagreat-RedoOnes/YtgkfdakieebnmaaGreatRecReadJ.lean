/-
  What a record's bytes are read as: a taker that meets no error reads the same of longer bytes; what was put is read again.
-/
import Derived.Test.YtgkfdakieebnmaaGreatRecDecodeC
import Derived.Test.YtgkfdakieebnmaaGreatRecPutsJ
import Derived.Test.YtgkfdakieebnmaaGreatRowOpsJ
import Derived.Test.YtgkfdakieebnmaaGreatRecDec0J
set_option linter.unusedVariables false
set_option linter.unusedSimpArgs false
namespace Go.Proofs.YtgkfdakieebnmaaGreat
open Go.RowKit Go.Sort

abbrev Tk (α : Type) := ByteArray → Nat → Int → Nat × Int × α

def bindK {α β : Type} (F : Tk α) (G : α → Tk β) : Tk β := fun s p e => G (F s p e).2.2 s (F s p e).1 (F s p e).2.1
def retK {α : Type} (v : α) : Tk α := fun s p e => (p, e, v)
def numK (n : Nat) : Tk Nat := fun s p e => numF s p e n
def textK (m : Nat) : Tk (List UInt8) := fun s p e => textF s p e m
def boolK : Tk Bool := fun s p e => boolF s p e
def countK (m : Nat) : Tk Nat := fun s p e => countF s p e m
def txsK (k : Nat) : Tk (List TxV) := fun s p e => txK s p e k
def disK (k : Nat) : Tk (List DiV) := fun s p e => dirK s p e k

def IsPre (t s : ByteArray) : Prop := ∃ z, s.data.toList = t.data.toList ++ z

theorem IsPre.size {t s : ByteArray} (h : IsPre t s) : t.size ≤ s.size := by
  obtain ⟨z, hz⟩ := h
  have := congrArg List.length hz
  simp at this
  omega

theorem IsPre.part {t s : ByteArray} (h : IsPre t s) {p n : Nat} (hn : p + n ≤ t.size) : part s p n = part t p n := by
  obtain ⟨z, hz⟩ := h
  have hl : t.data.toList.length = t.size := by simp
  unfold Go.Proofs.YtgkfdakieebnmaaGreat.part
  rw [hz, List.drop_append_of_le_length (by omega), List.take_append_of_le_length (by rw [List.length_drop]; omega)]

structure SureK {α : Type} (F : Tk α) : Prop where
  err : ∀ s p e, e ≠ 0 → (F s p e).2.1 ≠ 0
  ext : ∀ t s p p' v, IsPre t s → p ≤ t.size → F t p 0 = (p', 0, v) → p ≤ p' ∧ p' ≤ t.size ∧ F s p 0 = (p', 0, v)

theorem SureK.ret {α : Type} (v : α) : SureK (retK v) := by
  refine ⟨fun s p e h => h, fun t s p p' u hp hl h => ?_⟩
  simp only [retK, Prod.mk.injEq] at h
  obtain ⟨rfl, _, rfl⟩ := h
  exact ⟨Nat.le_refl _, hl, rfl⟩

theorem SureK.bind {α β : Type} {F : Tk α} {G : α → Tk β} (hF : SureK F) (hG : ∀ v, SureK (G v)) : SureK (bindK F G) := by
  refine ⟨fun s p e h => (hG _).err _ _ _ (hF.err s p e h), fun t s p p' v hp hl h => ?_⟩
  unfold bindK at h ⊢
  cases hft : F t p 0 with
  | mk p1 q =>
    obtain ⟨e1, v1⟩ := q
    rw [hft] at h
    simp only at h
    have he : e1 = 0 := by
      by_cases c : e1 = 0
      · exact c
      · have := (hG v1).err t p1 e1 c
        rw [h] at this
        exact absurd rfl this
    subst he
    obtain ⟨a1, a2, a3⟩ := hF.ext t s p p1 v1 hp hl hft
    obtain ⟨b1, b2, b3⟩ := (hG v1).ext t s p1 p' v hp a2 h
    rw [a3]
    exact ⟨by omega, b2, b3⟩

theorem SureK.ite {α : Type} {F G : Tk α} (c : Prop) [Decidable c] (hF : SureK F) (hG : SureK G) : SureK (if c then F else G) := by
  split
  · exact hF
  · exact hG

theorem SureK.num (n : Nat) : SureK (numK n) := by
  refine ⟨fun s p e h => by unfold numK numF; rw [if_pos h]; exact h, fun t s p p' v hp hl h => ?_⟩
  have hz := hp.size
  unfold numK numF at h ⊢
  rw [if_neg (by simp)] at h ⊢
  by_cases c1 : (n : Int) < 0 ∨ 8 < (n : Int)
  · rw [if_pos c1] at h; simp at h
  · rw [if_neg c1] at h ⊢
    rw [Int.toNat_natCast] at h ⊢
    by_cases c2 : t.size < p + n
    · rw [if_pos c2] at h; simp at h
    · rw [if_neg c2] at h
      simp only [Prod.mk.injEq, true_and] at h
      rw [if_neg (by omega), hp.part (by omega)]
      exact ⟨by omega, by omega, by rw [h.1, h.2]⟩

theorem SureK.text (m : Nat) : SureK (textK m) := by
  refine ⟨fun s p e h => by unfold textK textF; rw [if_pos h]; exact h, fun t s p p' v hp hl h => ?_⟩
  have hz := hp.size
  unfold textK textF at h ⊢
  rw [if_neg (by simp)] at h ⊢
  by_cases c1 : t.size < p + 2
  · rw [if_pos c1] at h; simp at h
  rw [if_neg c1] at h
  rw [if_neg (by omega), hp.part (by omega)]
  by_cases c2 : (m : Int) < (le (part t p 2) : Int)
  · rw [if_pos c2] at h; simp at h
  rw [if_neg c2] at h ⊢
  by_cases c3 : t.size < p + 2 + le (part t p 2)
  · rw [if_pos c3] at h; simp at h
  rw [if_neg c3] at h
  simp only [Prod.mk.injEq, true_and] at h
  rw [if_neg (by omega), hp.part (by omega)]
  exact ⟨by omega, by omega, by rw [h.1, h.2]⟩

theorem SureK.bool : SureK boolK := by
  refine ⟨fun s p e h => by unfold boolK boolF; rw [if_pos h]; exact h, fun t s p p' v hp hl h => ?_⟩
  have hz := hp.size
  unfold boolK boolF at h ⊢
  rw [if_neg (by simp)] at h ⊢
  by_cases c1 : t.size < p + 1
  · rw [if_pos c1] at h; simp at h
  rw [if_neg c1] at h
  rw [if_neg (by omega), hp.part (by omega)]
  by_cases c2 : 1 < le (part t p 1)
  · rw [if_pos c2] at h; simp at h
  rw [if_neg c2] at h ⊢
  simp only [Prod.mk.injEq, true_and] at h
  exact ⟨by omega, by omega, by rw [h.1, h.2]⟩

theorem SureK.count (m : Nat) : SureK (countK m) := by
  refine ⟨fun s p e h => ?_, fun t s p p' v hp hl h => ?_⟩
  · have hn : (numF s p e 2).2.1 ≠ 0 := (SureK.num 2).err s p e h
    unfold countK countF
    split
    · show failE (numF s p e 2).2.1 3 ≠ 0
      unfold failE
      rw [if_neg hn]; exact hn
    · exact hn
  · unfold countK countF at h ⊢
    by_cases c : m < (numF t p 0 2).2.2
    · rw [if_pos c] at h
      simp only [Prod.mk.injEq, failE] at h
      split at h <;> simp_all
    · rw [if_neg c] at h
      have hx := (SureK.num 2).ext t s p p' v hp hl h
      have h2 : numF s p 0 2 = (p', 0, v) := hx.2.2
      have h1 : numF t p 0 2 = (p', 0, v) := h
      rw [h1] at c
      rw [h2, if_neg c]
      exact ⟨hx.1, hx.2.1, rfl⟩

theorem SureK.txs (k : Nat) : SureK (txsK k) := by
  induction k with
  | zero => exact SureK.ret _
  | succ k ih =>
    have : txsK (k + 1) = bindK (txsK k) fun L => bindK (numK 4) fun a => bindK (numK 1) fun b => bindK (numK 8) fun c => bindK (numK 8) fun d => retK (L ++ [((a : Int), (b : Int), c, d)]) := rfl
    rw [this]
    exact ih.bind fun _ => (SureK.num 4).bind fun _ => (SureK.num 1).bind fun _ => (SureK.num 8).bind fun _ => (SureK.num 8).bind fun _ => SureK.ret _

theorem SureK.dis (k : Nat) : SureK (disK k) := by
  induction k with
  | zero => exact SureK.ret _
  | succ k ih =>
    have : disK (k + 1) = bindK (disK k) fun L => bindK (numK 4) fun a => bindK (numK 8) fun b => retK (L ++ [(a, b)]) := rfl
    rw [this]
    exact ih.bind fun _ => (SureK.num 4).bind fun _ => (SureK.num 8).bind fun _ => SureK.ret _

def headK : Tk RecV := bindK (numK 1) fun a => bindK (numK 4) fun b => bindK (numK 8) fun c => retK (plainV a b c)
def nextK (R : RecV) : Tk RecV := if nextB R then (bindK (numK 8) fun a => retK { R with next := a }) else retK R
def changeK (R : RecV) : Tk RecV := if changeB R then (bindK (numK 4) fun a => bindK (numK 1) fun b => bindK (numK 2) fun c => bindK (textK 65535) fun d => bindK (textK 65535) fun f => bindK (numK 1) fun g => retK { R with page := a, op := ⟨b, c, ⟨d.toArray⟩, ⟨f.toArray⟩⟩, undo := g }) else retK R
def keyK (R : RecV) : Tk RecV := if keyB R then (bindK (numK 2) fun a => bindK (textK 64) fun b => bindK (numK 4) fun c => bindK (numK 2) fun d => bindK boolK fun f => retK { R with index := a, key := ⟨b.toArray⟩, rpage := c, rslot := d, live := f }) else retK R
def listsK (R : RecV) : Tk RecV := if listsB R then (bindK (countK 64) fun a => bindK (txsK a) fun b => bindK (countK 256) fun c => bindK (disK c) fun d => retK { R with txs := b, dirty := d }) else retK R
def recK : Tk RecV := bindK headK fun a => bindK (nextK a) fun b => bindK (changeK b) fun c => bindK (keyK c) fun d => listsK d

theorem nextK_eq (R : RecV) : nextK R = fun s p e => rnextF s p e R := by
  funext s p e
  unfold nextK rnextF
  cases nextB R <;> rfl
theorem changeK_eq (R : RecV) : changeK R = fun s p e => changeF s p e R := by
  funext s p e
  unfold changeK changeF
  cases changeB R <;> rfl
theorem keyK_eq (R : RecV) : keyK R = fun s p e => keyF s p e R := by
  funext s p e
  unfold keyK keyF
  cases keyB R <;> rfl
theorem listsK_eq (R : RecV) : listsK R = fun s p e => listsF s p e R := by
  funext s p e
  unfold listsK listsF
  cases listsB R <;> rfl

theorem recK_eq (s : ByteArray) : readR s = recK s 0 0 := by
  unfold recK readR bindK
  simp only [nextK_eq, changeK_eq, keyK_eq, listsK_eq]
  rfl

theorem SureK.all : SureK recK := by
  unfold recK headK
  refine ((SureK.num 1).bind fun _ => (SureK.num 4).bind fun _ => (SureK.num 8).bind fun _ => SureK.ret _).bind fun a => SureK.bind ?_ fun b => SureK.bind ?_ fun c => SureK.bind ?_ fun d => ?_
  · unfold nextK
    exact SureK.ite _ ((SureK.num 8).bind fun _ => SureK.ret _) (SureK.ret _)
  · unfold changeK
    exact SureK.ite _ ((SureK.num 4).bind fun _ => (SureK.num 1).bind fun _ => (SureK.num 2).bind fun _ => (SureK.text _).bind fun _ => (SureK.text _).bind fun _ => (SureK.num 1).bind fun _ => SureK.ret _) (SureK.ret _)
  · unfold keyK
    exact SureK.ite _ ((SureK.num 2).bind fun _ => (SureK.text _).bind fun _ => (SureK.num 4).bind fun _ => (SureK.num 2).bind fun _ => SureK.bool.bind fun _ => SureK.ret _) (SureK.ret _)
  · unfold listsK
    exact SureK.ite _ ((SureK.count 64).bind fun _ => (SureK.txs _).bind fun _ => (SureK.count 256).bind fun _ => (SureK.dis _).bind fun _ => SureK.ret _) (SureK.ret _)

def PutsK {α : Type} (F : Tk α) (l : List UInt8) (v : α) : Prop := ∀ (s : ByteArray) (pre post : List UInt8), s.data.toList = pre ++ (l ++ post) → F s pre.length 0 = (pre.length + l.length, 0, v)

theorem PutsK.ret {α : Type} (v : α) : PutsK (retK v) [] v := fun s pre post h => rfl

theorem PutsK.bind {α β : Type} {F : Tk α} {G : α → Tk β} {l m : List UInt8} {v : α} {u : β} (hF : PutsK F l v) (hG : PutsK (G v) m u) : PutsK (bindK F G) (l ++ m) u := by
  intro s pre post h
  unfold bindK
  have h1 := hF s pre (m ++ post) (by rw [h]; simp)
  rw [h1]
  have h2 := hG s (pre ++ l) post (by rw [h]; simp)
  rw [List.length_append] at h2
  rw [h2, List.length_append, Nat.add_assoc]

theorem PutsK.bind0 {α β : Type} {F : Tk α} {G : α → Tk β} {l : List UInt8} {v : α} {u : β} (hF : PutsK F l v) (hG : PutsK (G v) [] u) : PutsK (bindK F G) l u := by
  have := hF.bind hG
  rwa [List.append_nil] at this

theorem PutsK.num {n x : Nat} (hn : n ≤ 8) (hx : x < 2 ^ (8 * n)) : PutsK (numK n) (putL x n) x := by
  intro s pre post h
  have hs := congrArg List.length h
  simp [putL_length] at hs
  unfold numK
  rw [numF_ok n hn (by omega), part_at h rfl (by rw [putL_length]), le_putL, Nat.mod_eq_of_lt hx, putL_length]

theorem PutsK.text {m : Nat} {S : ByteArray} (h1 : S.size ≤ m) (h2 : m ≤ 65535) : PutsK (textK m) (textB S) S.data.toList := by
  intro s pre post h
  have hl : S.data.toList.length = S.size := by simp
  unfold textB at h ⊢
  rw [if_pos (by omega)] at h ⊢
  have hs := congrArg List.length h
  simp [putL_length] at hs
  have hp : part s pre.length 2 = putL S.size 2 := part_at (post := S.data.toList ++ post) (by rw [h]; simp) rfl (by rw [putL_length])
  have hv : le (part s pre.length 2) = S.size := by rw [hp, le_putL, Nat.mod_eq_of_lt (by omega)]
  unfold textK
  rw [textF_ok m (by rw [hv]; omega) (by rw [hv]; omega), hv, List.length_append, putL_length, hl]
  have hq : part s (pre.length + 2) S.size = S.data.toList := part_at (pre := pre ++ putL S.size 2) (post := post) (by rw [h]; simp) (by rw [List.length_append, putL_length]) hl.symm
  rw [hq, Nat.add_assoc]

theorem PutsK.bool (b : Bool) : PutsK boolK (putL b.toNat 1) b := by
  intro s pre post h
  have hs := congrArg List.length h
  simp [putL_length] at hs
  have hb : b.toNat ≤ 1 := by cases b <;> decide
  have hp : part s pre.length 1 = putL b.toNat 1 := part_at h rfl (by rw [putL_length])
  have hv : le (part s pre.length 1) = b.toNat := by rw [hp, le_putL, Nat.mod_eq_of_lt (by omega)]
  unfold boolK boolF
  rw [if_neg (by simp), if_neg (by omega), hv, if_neg (by omega), putL_length]
  cases b <;> rfl

theorem PutsK.count {m n : Nat} (h1 : n ≤ m) (h2 : m ≤ 65535) : PutsK (countK m) (putL n 2) n := by
  intro s pre post h
  have hn : numF s pre.length 0 2 = (pre.length + (putL n 2).length, 0, n) := PutsK.num (n := 2) (by omega) (by omega) s pre post h
  unfold countK countF
  rw [hn, if_neg (by show ¬ m < n; omega)]

theorem PutsK.txs (L : List TxV) (h : ∀ t ∈ L, (0 ≤ t.1 ∧ t.1 ≤ 2147483647) ∧ (1 ≤ t.2.1 ∧ t.2.1 ≤ 3) ∧ t.2.2.1 < 18446744073709551616 ∧ t.2.2.2 < 18446744073709551616) (k : Nat) (hk : k ≤ L.length) : PutsK (txsK k) ((L.take k).flatMap txL) (L.take k) := by
  induction k with
  | zero => exact PutsK.ret _
  | succ k ih =>
    have hlt : k < L.length := by omega
    obtain ⟨h1, h2, h3, h4⟩ := h L[k] (List.getElem_mem _)
    have e1 : ((L[k].1.toNat : Nat) : Int) = L[k].1 := by omega
    have e2 : ((L[k].2.1.toNat : Nat) : Int) = L[k].2.1 := by omega
    have : txsK (k + 1) = bindK (txsK k) fun L => bindK (numK 4) fun a => bindK (numK 1) fun b => bindK (numK 8) fun c => bindK (numK 8) fun d => retK (L ++ [((a : Int), (b : Int), c, d)]) := rfl
    rw [this, List.take_succ_eq_append_getElem hlt, List.flatMap_append]
    refine (ih (by omega)).bind ?_
    simp only [List.flatMap_cons, List.flatMap_nil, List.append_nil]
    unfold txL
    refine (PutsK.num (by omega) (by omega)).bind ((PutsK.num (by omega) (by omega)).bind ((PutsK.num (by omega) (by omega)).bind ((PutsK.num (by omega) (by omega)).bind0 ?_)))
    rw [e1, e2]
    exact PutsK.ret _

theorem PutsK.dis (L : List DiV) (h : ∀ t ∈ L, t.1 < 4294967296 ∧ t.2 < 18446744073709551616) (k : Nat) (hk : k ≤ L.length) : PutsK (disK k) ((L.take k).flatMap diL) (L.take k) := by
  induction k with
  | zero => exact PutsK.ret _
  | succ k ih =>
    have hlt : k < L.length := by omega
    obtain ⟨h1, h2⟩ := h L[k] (List.getElem_mem _)
    have : disK (k + 1) = bindK (disK k) fun L => bindK (numK 4) fun a => bindK (numK 8) fun b => retK (L ++ [(a, b)]) := rfl
    rw [this, List.take_succ_eq_append_getElem hlt, List.flatMap_append]
    refine (ih (by omega)).bind ?_
    simp only [List.flatMap_cons, List.flatMap_nil, List.append_nil]
    unfold diL
    exact (PutsK.num (by omega) (by omega)).bind ((PutsK.num (by omega) (by omega)).bind0 (PutsK.ret _))

theorem bytes_listR (s : ByteArray) : s = ⟨s.data.toList.toArray⟩ := by cases s; simp

theorem sameR_eq {a b : RecV} (h : sameR a b = true) : a = b := by
  unfold sameR at h
  simp only [Bool.and_eq_true, decide_eq_true_eq] at h
  obtain ⟨k1, t1, p1, n1, g1, o1, u1, i1, e1, rp1, rs1, l1, tx1, d1⟩ := a
  obtain ⟨k2, t2, p2, n2, g2, o2, u2, i2, e2, rp2, rs2, l2, tx2, d2⟩ := b
  obtain ⟨o1k, o1a, o1S, o1o⟩ := o1
  obtain ⟨o2k, o2a, o2S, o2o⟩ := o2
  simp only [and_assoc] at h
  simp_all

theorem read_back {r : RecV} (hm : MayR r) (hw : r.Wide) (hprev : r.prev < 18446744073709551616) (hnext : r.next < 18446744073709551616) (hpage : r.page < 4294967296) (hrp : r.rpage < 4294967296) : PutsK recK (encR r) r := by
  have hr : r = namedV r := sameR_eq hm.same
  have ek : ((r.kind.toNat : Nat) : Int) = r.kind := by have := hm.kind; omega
  have et : ((r.tx.toNat : Nat) : Int) = r.tx := by have := hm.tx; omega
  unfold recK encR
  have hh : PutsK headK (putL r.kind.toNat 1 ++ (putL r.tx.toNat 4 ++ putL r.prev 8)) (plainV r.kind.toNat r.tx.toNat r.prev) := by
    unfold headK
    have h1 := hm.kind
    have h2 := hm.tx
    exact (PutsK.num (by omega) (by omega)).bind ((PutsK.num (by omega) (by omega)).bind ((PutsK.num (by omega) (by omega)).bind0 (PutsK.ret _)))
  rw [show putL r.kind.toNat 1 ++ (putL r.tx.toNat 4 ++ (putL r.prev 8 ++ ((if nextB r then putL r.next 8 else []) ++ ((if changeB r then changeL r else []) ++ ((if keyB r then rkeyL r else []) ++ (if listsB r then txsL r.txs ++ disL r.dirty else [])))))) = (putL r.kind.toNat 1 ++ (putL r.tx.toNat 4 ++ putL r.prev 8)) ++ ((if nextB r then putL r.next 8 else []) ++ ((if changeB r then changeL r else []) ++ ((if keyB r then rkeyL r else []) ++ (if listsB r then txsL r.txs ++ disL r.dirty else [])))) from by simp]
  refine hh.bind ?_
  -- the record as it grows
  obtain ⟨R0, hR0⟩ : ∃ R0, plainV r.kind.toNat r.tx.toNat r.prev = R0 := ⟨_, rfl⟩
  obtain ⟨R1, hR1⟩ : ∃ R1 : RecV, { R0 with next := if nextB r then r.next else 0 } = R1 := ⟨_, rfl⟩
  obtain ⟨R2, hR2⟩ : ∃ R2 : RecV, { R1 with page := if changeB r then r.page else 0, op := if changeB r then r.op else ⟨0, 0, ⟨#[]⟩, ⟨#[]⟩⟩, undo := if changeB r then r.undo else 0 } = R2 := ⟨_, rfl⟩
  obtain ⟨R3, hR3⟩ : ∃ R3 : RecV, { R2 with index := if keyB r then r.index else 0, key := if keyB r then r.key else ⟨#[]⟩, rpage := if keyB r then r.rpage else 0, rslot := if keyB r then r.rslot else 0, live := if keyB r then r.live else false } = R3 := ⟨_, rfl⟩
  have k0 : R0.kind = r.kind := by rw [← hR0]; exact ek
  have k1 : R1.kind = r.kind := by rw [← hR1]; exact k0
  have k2 : R2.kind = r.kind := by rw [← hR2]; exact k1
  have k3 : R3.kind = r.kind := by rw [← hR3]; exact k2
  have b0 : nextB R0 = nextB r := by unfold nextB; rw [k0]
  have b1 : changeB R1 = changeB r := by unfold changeB; rw [k1]
  have b2 : keyB R2 = keyB r := by
    unfold keyB
    rw [k2, show R2.undo = if changeB r then r.undo else 0 from by rw [← hR2]]
    by_cases c : r.kind = 1 ∨ r.kind = 2
    · have : changeB r = true := by unfold changeB; simpa using c
      rw [this]; simp
    · simp [c]
  have b3 : listsB R3 = listsB r := by unfold listsB; rw [k3]
  rw [hR0]
  have hN : PutsK (nextK R0) (if nextB r then putL r.next 8 else []) R1 := by
    unfold nextK
    rw [b0]
    cases hb : nextB r with
    | true =>
      rw [hb] at hR1
      rw [if_pos rfl, if_pos rfl]
      refine (PutsK.num (by omega) (by omega)).bind0 ?_
      rw [← hR1]
      exact PutsK.ret _
    | false =>
      rw [hb] at hR1
      have : R1 = R0 := by rw [← hR1, ← hR0]; rfl
      rw [this]
      exact PutsK.ret _
  refine hN.bind ?_
  have hC : PutsK (changeK R1) (if changeB r then changeL r else []) R2 := by
    unfold changeK
    rw [b1]
    cases hb : changeB r with
    | true =>
      obtain ⟨c1, c2, c3, c4, c5, c6⟩ := hm.change hb
      rw [hb] at hR2
      rw [if_pos rfl, if_pos rfl]
      unfold changeL
      refine (PutsK.num (by omega) (by omega)).bind ((PutsK.num (by omega) (by omega)).bind ((PutsK.num (by omega) (by omega)).bind ((PutsK.text (by omega) (by omega)).bind ((PutsK.text (by omega) (by omega)).bind ((PutsK.num (by omega) (by omega)).bind0 ?_)))))
      rw [← hR2]
      have a1 : ((r.op.kind.toNat : Nat) : Int) = r.op.kind := by omega
      have a2 : ((r.op.at'.toNat : Nat) : Int) = r.op.at' := by omega
      have a3 : ((r.undo.toNat : Nat) : Int) = r.undo := by omega
      rw [a1, a2, a3, ← bytes_listR, ← bytes_listR]
      exact PutsK.ret _
    | false =>
      rw [hb] at hR2
      have : R2 = R1 := by rw [← hR2, ← hR1, ← hR0]; rfl
      rw [this]
      exact PutsK.ret _
  refine hC.bind ?_
  have hK : PutsK (keyK R2) (if keyB r then rkeyL r else []) R3 := by
    unfold keyK
    rw [b2]
    cases hb : keyB r with
    | true =>
      obtain ⟨c1, c2, c3⟩ := hm.key hb
      rw [hb] at hR3
      rw [if_pos rfl, if_pos rfl]
      unfold rkeyL
      refine (PutsK.num (by omega) (by omega)).bind ((PutsK.text (by omega) (by omega)).bind ((PutsK.num (by omega) (by omega)).bind ((PutsK.num (by omega) (by omega)).bind ((PutsK.bool _).bind0 ?_))))
      rw [← hR3]
      have a1 : ((r.index.toNat : Nat) : Int) = r.index := by omega
      have a2 : ((r.rslot.toNat : Nat) : Int) = r.rslot := by omega
      rw [a1, a2, ← bytes_listR]
      exact PutsK.ret _
    | false =>
      rw [hb] at hR3
      have : R3 = R2 := by rw [← hR3, ← hR2, ← hR1, ← hR0]; rfl
      rw [this]
      exact PutsK.ret _
  refine hK.bind ?_
  have hfin : ({ R3 with txs := if listsB r then r.txs else [], dirty := if listsB r then r.dirty else [] } : RecV) = r := by
    conv => rhs; rw [hr]
    rw [← hR3, ← hR2, ← hR1, ← hR0]
    unfold plainV namedV
    simp only [ek, et]
  unfold listsK
  rw [b3]
  cases hb : listsB r with
  | true =>
    obtain ⟨c1, c2, c3⟩ := hm.lists hb
    rw [hb] at hfin
    rw [if_pos rfl, if_pos rfl]
    have hT := PutsK.txs r.txs (fun t ht => by
      obtain ⟨i, hi, rfl⟩ := List.mem_iff_getElem.1 ht
      have := c3 _ ht
      have := hw.txs i hi
      exact ⟨by omega, by omega, by omega, by omega⟩) r.txs.length (Nat.le_refl _)
    have hD := PutsK.dis r.dirty (fun t ht => by
      obtain ⟨i, hi, rfl⟩ := List.mem_iff_getElem.1 ht
      exact hw.dirty i hi) r.dirty.length (Nat.le_refl _)
    rw [List.take_length] at hT hD
    unfold txsL disL
    rw [List.append_assoc]
    refine (PutsK.count c1 (by omega)).bind (hT.bind ((PutsK.count c2 (by omega)).bind (hD.bind0 ?_)))
    rw [← hfin]
    exact PutsK.ret _
  | false =>
    rw [hb] at hfin
    have : R3 = r := by
      rw [← hfin, ← hR3, ← hR2, ← hR1, ← hR0]; rfl
    rw [this]
    exact PutsK.ret _

theorem enc_reads {r : RecV} (hm : MayR r) (hw : r.Wide) (hprev : r.prev < 18446744073709551616) (hnext : r.next < 18446744073709551616) (hpage : r.page < 4294967296) (hrp : r.rpage < 4294967296) :
    (∀ k, k < (encR r).length → endE ((ByteArray.mk (encR r).toArray).extract 0 k) (readR ((ByteArray.mk (encR r).toArray).extract 0 k)).1 (readR ((ByteArray.mk (encR r).toArray).extract 0 k)).2.1 ≠ 0) ∧
    (∀ z : ByteArray, readR (ByteArray.mk (encR r).toArray ++ z) = ((encR r).length, 0, r)) := by
  have hb := read_back hm hw hprev hnext hpage hrp
  have hall : ∀ z : ByteArray, readR (ByteArray.mk (encR r).toArray ++ z) = ((encR r).length, 0, r) := fun z => by
    rw [recK_eq]
    have := hb (ByteArray.mk (encR r).toArray ++ z) [] z.data.toList (by simp [ByteArray.data_append])
    simpa using this
  refine ⟨fun k hk he => ?_, hall⟩
  obtain ⟨t, ht⟩ : ∃ t, (ByteArray.mk (encR r).toArray).extract 0 k = t := ⟨_, rfl⟩
  rw [ht] at he
  have hsz : (ByteArray.mk (encR r).toArray).size = (encR r).length := by show (encR r).toArray.size = _; simp
  have hts : t.size = k := by rw [← ht, ByteArray.size_extract, hsz]; omega
  have hpre : IsPre t (ByteArray.mk (encR r).toArray) := by
    refine ⟨(encR r).drop k, ?_⟩
    rw [← ht, ByteArray.data_extract, Array.toList_extract, List.extract_eq_take_drop]
    simp
  have hf : readR (ByteArray.mk (encR r).toArray) = ((encR r).length, 0, r) := by
    have := hall ⟨#[]⟩
    rwa [show ByteArray.mk (encR r).toArray ++ (⟨#[]⟩ : ByteArray) = ByteArray.mk (encR r).toArray from by apply ByteArray.ext; simp [ByteArray.data_append]] at this
  cases hq : readR t with
  | mk p q =>
    obtain ⟨e, v⟩ := q
    rw [hq] at he
    unfold endE at he
    simp only at he
    split at he
    · cases he
    · subst he
      rw [recK_eq] at hq hf
      obtain ⟨_, h2, h3⟩ := SureK.all.ext t _ 0 p v hpre (Nat.zero_le _) hq
      rw [hf] at h3
      simp only [Prod.mk.injEq] at h3
      omega

end Go.Proofs.YtgkfdakieebnmaaGreat

namespace Go.Proofs.YtgkfdakieebnmaaGreat
open Go.RowKit Go.Sort

set_option maxHeartbeats 3200000 in
set_option maxRecDepth 8000 in
theorem decode_bad (s : ByteArray) (w : World) (hs : s.size ≤ 281474976710656) {p0 p1 p2 p3 p4 p5 p6 : Nat} {e0 e1 e2 e3 e4 e5 e6 : Int} {k x q : Nat} {R1 R2 R3 R4 : RecV} (h0 : numF s 0 0 1 = (p0, e0, k)) (h1 : numF s p0 e0 4 = (p1, e1, x)) (h2 : numF s p1 e1 8 = (p2, e2, q))
    (h3 : rnextF s p2 e2 (plainV k x q) = (p3, e3, R1)) (h4 : changeF s p3 e3 R1 = (p4, e4, R2)) (h5 : keyF s p4 e4 R2 = (p5, e5, R3)) (h6 : listsF s p5 e5 R3 = (p6, e6, R4)) (he : endE s p6 e6 ≠ 0) :
    Calls Tryz.prog 22 #[.string s] w fun e w' => e = .returned (.tuple #[.agg zeroCellsR, .int .i64 40]) ∧ Below w.heap.size w w' := by
  obtain ⟨W, HW⟩ : ∃ W, Hid (W = (((w.alloc (.cells zeroCellsR 64)).alloc (.cells #[.string s, .int .i64 0, .int .i64 0] 202)).alloc (.cells zeroCellsR 64))) := ⟨_, rfl⟩
  have HS0 : Hid (DecAt w W s 0 0 zeroCellsR) := by show DecAt _ _ _ _ _ _; rw [HW.out]; exact DecAt.start w s (by omega)
  have hk8 : k < 256 := by have := numF_lt s 0 0 1; rw [show (((1 : Nat) : Int)) = 1 from rfl, h0] at this; exact this
  have hx32 : x < 4294967296 := by have := numF_lt s p0 e0 4; rw [show (((4 : Nat) : Int)) = 4 from rfl, h1] at this; exact this
  have hqn : q < 18446744073709551616 := by have := numF_lt s p1 e1 8; rw [show (((8 : Nat) : Int)) = 8 from rfl, h2] at this; exact this
  have HR3 : Hid (NoLists R3) := keyF_no (changeF_no (nextF_no ⟨rfl, rfl⟩ h3) h4) h5
  obtain ⟨E, NE⟩ : ∃ E, Hid (endE s p6 e6 = E) := ⟨_, rfl⟩
  rw [NE.out] at he
  have NH := hidr he
  clear he
  have N0 := hidr h0
  have N1 := hidr h1
  have N2 := hidr h2
  have N3 := hidr h3
  have N4 := hidr h4
  have N5 := hidr h5
  have N6 := hidr h6
  clear h0 h1 h2 h3 h4 h5 h6
  have HNR := hidr (new_reader s (w.alloc (.cells zeroCellsR 64)))
  unfold zeroCellsR at HNR
  go_enter Tryz.func22, Tryz.ntmps22
  go_wp2_with fail
  refine HNR.out.mono ?_
  rintro e w1 ⟨rfl, rfl⟩
  go_upto_region 3 with fail
  rw [show ((w.alloc (.cells #[.int .i64 0, .int .i64 0, .int .u64 0, .int .u64 0, .int .u32 0, .int .i64 0, .int .i64 0, .string ⟨#[]⟩, .string ⟨#[]⟩, .int .i64 0, .int .i64 0, .string ⟨#[]⟩, .int .u32 0, .int .i64 0, .bool false, .slice none 0 0, .slice none 0 0] 64)).alloc (.cells #[.string s, .int .i64 0, .int .i64 0] 202)).alloc (.cells #[.int .i64 0, .int .i64 0, .int .u64 0, .int .u64 0, .int .u32 0, .int .i64 0, .int .i64 0, .string ⟨#[]⟩, .string ⟨#[]⟩, .int .i64 0, .int .i64 0, .string ⟨#[]⟩, .int .u32 0, .int .i64 0, .bool false, .slice none 0 0, .slice none 0 0] 64) = W from HW.out.symm]
  clear HW HNR
  have q0 : IntKind.i64.wrap (k : Int) = (k : Int) := by rw [IntKind.wrap_i64]; omega
  have q1 : IntKind.i64.wrap (x : Int) = (x : Int) := by rw [IntKind.wrap_i64]; omega
  have HR0 : Hid (Calls Tryz.prog 59 #[.pointer (some ⟨w.heap.size + 1, 0, none⟩), .int .i64 1] W fun y w' => y = .returned (.int .u64 (k : Nat)) ∧ IsReader w' (w.heap.size + 1) s p0 e0 ∧ Only (w.heap.size + 1) W w') := by
    have := number_any HS0.out.rd 1
    rw [N0.out] at this
    exact this
  go_wp2_with fail
  refine HR0.out.mono ?_
  rintro e w2 ⟨rfl, hr0, o0⟩
  have HX0 := hidr (HS0.out.only o0 hr0)
  clear HR0 HS0 hr0 o0
  have x0 := HX0.out.out.cell 0
  have f0 := HX0.out.out.frozen 0
  obtain ⟨W2, HW0⟩ : ∃ y, Hid (y = w2.setCell ⟨w.heap.size + 1 + 1, 0, none⟩ (.int .i64 (k : Int))) := ⟨_, rfl⟩
  have HS1 := hidr (HX0.out.set 0 (.int .i64 (k : Int)))
  rw [← HW0.out] at HS1
  go_upto_region 4 with fail
  rw [← HW0.out]
  clear HW0 HX0 x0 f0
  have HR1 : Hid (Calls Tryz.prog 59 #[.pointer (some ⟨w.heap.size + 1, 0, none⟩), .int .i64 4] W2 fun y w' => y = .returned (.int .u64 (x : Nat)) ∧ IsReader w' (w.heap.size + 1) s p1 e1 ∧ Only (w.heap.size + 1) W2 w') := by
    have := number_any HS1.out.rd 4
    rw [N1.out] at this
    exact this
  go_wp2_with fail
  refine HR1.out.mono ?_
  rintro e w3 ⟨rfl, hr1, o1⟩
  have HX1 := hidr (HS1.out.only o1 hr1)
  clear HR1 HS1 hr1 o1
  have x1 := HX1.out.out.cell 1
  have f1 := HX1.out.out.frozen 1
  obtain ⟨W3, HW1⟩ : ∃ y, Hid (y = w3.setCell ⟨w.heap.size + 1 + 1, 1, none⟩ (.int .i64 (x : Int))) := ⟨_, rfl⟩
  have HS2 := hidr (HX1.out.set 1 (.int .i64 (x : Int)))
  rw [← HW1.out] at HS2
  go_upto_region 5 with fail
  rw [← HW1.out]
  clear HW1 HX1 x1 f1
  have HR2 : Hid (Calls Tryz.prog 59 #[.pointer (some ⟨w.heap.size + 1, 0, none⟩), .int .i64 8] W3 fun y w' => y = .returned (.int .u64 (q : Nat)) ∧ IsReader w' (w.heap.size + 1) s p2 e2 ∧ Only (w.heap.size + 1) W3 w') := by
    have := number_any HS2.out.rd 8
    rw [N2.out] at this
    exact this
  go_wp2_with fail
  refine HR2.out.mono ?_
  rintro e w4 ⟨rfl, hr2, o2⟩
  have HX2 := hidr (HS2.out.only o2 hr2)
  clear HR2 HS2 hr2 o2
  have x2 := HX2.out.out.cell 2
  have f2 := HX2.out.out.frozen 2
  obtain ⟨W4, HW2⟩ : ∃ y, Hid (y = w4.setCell ⟨w.heap.size + 1 + 1, 2, none⟩ (.int .u64 (q : Int))) := ⟨_, rfl⟩
  have HS3 := hidr (HX2.out.set 2 (.int .u64 (q : Int)))
  rw [← HW2.out] at HS3
  go_upto_region 6 with fail
  rw [← HW2.out]
  clear HW2 HX2 x2 f2
  clear q0 q1 N0 N1 N2
  have HD : Hid (DecAt w W4 s p2 e2 ((plainV k x q).cells none none 0 0)) := HS3.out
  clear HS3
  obtain ⟨R, HRD⟩ : ∃ r, Hid (r = plainV k x q) := ⟨_, rfl⟩
  rw [← HRD.out] at HD N3
  have HN : Hid (∀ R wx, Calls Tryz.prog 60 #[.agg (R.cells none none 0 0)] wx fun e w' => e = .returned (.bool (nextB R)) ∧ Below wx.heap.size wx w') := fun R wx => hasNext_any R none none 0 0 wx
  have HC : Hid (∀ R wx, Calls Tryz.prog 61 #[.agg (R.cells none none 0 0)] wx fun e w' => e = .returned (.bool (changeB R)) ∧ Below wx.heap.size wx w') := fun R wx => hasChange_any R none none 0 0 wx
  have HK : Hid (∀ R wx, Calls Tryz.prog 63 #[.agg (R.cells none none 0 0)] wx fun e w' => e = .returned (.bool (keyB R)) ∧ Below wx.heap.size wx w') := fun R wx => hasKey_any R none none 0 0 wx
  have HL : Hid (∀ R wx, Calls Tryz.prog 65 #[.agg (R.cells none none 0 0)] wx fun e w' => e = .returned (.bool (listsB R)) ∧ Below wx.heap.size wx w') := fun R wx => hasLists_any R none none 0 0 wx
  refine wp_region_lit ?_
  refine wpList_loadRow rfl _ _ rfl (w.heap.size + 1 + 1) rfl (R.cells none none 0 0) _ (0, 0) HD.out.out _ Tryz.underlying64 rfl (by kernel_rfl) ?_
  go_wp2_with fail
  refine (HN.out _ _).mono ?_
  rintro e y0 ⟨rfl, b0⟩
  have HD0 := hidr (HD.out.below b0)
  clear HD b0
  go_upto_if 20 with fail
  go_cut [] from 19 to 23 (fun wx => Hid (DecAt w wx s p3 e3 (R1.cells none none 0 0)))
  case first =>
    cases hb : nextB R with
    | false =>
      go_wp2_with fail
      go_meet
      case rel =>
        have h3 := N3.out
        unfold rnextF at h3
        simp only [hb, if_false, Bool.false_eq_true, Prod.mk.injEq] at h3
        obtain ⟨rfl, rfl, rfl⟩ := h3
        exact HD0
    | true =>
      have h3 := N3.out
      unfold rnextF at h3
      simp only [hb, if_true, Prod.mk.injEq] at h3
      obtain ⟨⟨pq, eq, xq⟩, HA⟩ : ∃ X, Hid (numF s p2 e2 8 = X) := ⟨_, rfl⟩
      rw [HA.out] at h3
      simp only at h3
      obtain ⟨rfl, rfl, hR1⟩ := h3
      have HR1 := hidr hR1
      clear hR1
      have HR : Hid (Calls Tryz.prog 59 #[.pointer (some ⟨w.heap.size + 1, 0, none⟩), .int .i64 8] y0 fun y w' => y = .returned (.int .u64 (xq : Nat)) ∧ IsReader w' (w.heap.size + 1) s pq eq ∧ Only (w.heap.size + 1) y0 w') := by
        have := number_any HD0.out.rd 8
        rw [HA.out] at this
        exact this
      go_wp2_with fail
      refine HR.out.mono ?_
      rintro e y1 ⟨rfl, hr1, o1⟩
      have HX := hidr (HD0.out.only o1 hr1)
      have xx := HX.out.out.cell 3
      have ff := HX.out.out.frozen 3
      clear HR HD0 hr1 o1
      go_wp2_with fail
      go_meet
      case rel =>
        have := HX.out.set 3 (.int .u64 (xq : Int))
        rw [← HR1.out]
        exact this
  case rest =>
    have HD1 := hcut
    clear HD0 N3 HRD hk8 hx32 hqn
    rename_i v1
    go_upto_region 8 with fail
    refine wp_region_lit ?_
    refine wpList_loadRow rfl _ _ rfl (w.heap.size + 1 + 1) rfl (R1.cells none none 0 0) _ (0, 0) HD1.out.out _ Tryz.underlying64 rfl (by kernel_rfl) ?_
    go_wp2_with fail
    refine (HC.out _ _).mono ?_
    rintro e y1 ⟨rfl, b1⟩
    have HE1 := hidr (HD1.out.below b1)
    clear HD1 b1
    go_upto_if 25 with fail
    go_cut [] from 24 to 27 (fun wx => Hid (DecAt w wx s p4 e4 (R2.cells none none 0 0)))
    case first =>
      cases hb : changeB R1 with
      | false =>
        go_wp2_with fail
        go_meet
        case rel =>
          have h3 := N4.out
          unfold changeF at h3
          simp only [hb, if_false, Bool.false_eq_true, Prod.mk.injEq] at h3
          obtain ⟨rfl, rfl, rfl⟩ := h3
          exact HE1
      | true =>
        have h3 := N4.out
        unfold changeF at h3
        simp only [hb, if_true, changeG] at h3
        simp only [Prod.mk.injEq] at h3
        obtain ⟨rfl, rfl, rfl⟩ := h3
        have HT := hidr (takeChange_any HE1.out.rd R1 none none 0 0 (by omega) HE1.out.out rfl rfl rfl rfl rfl rfl)
        go_wp2_with fail
        refine HT.out.mono ?_
        rintro e t1 ⟨rfl, ht⟩
        have HX := hidr (HE1.out.take ht)
        clear HT HE1 ht
        go_wp2_with fail
        go_meet
        case rel => exact HX
    case rest =>
      have HD2 := hcut
      clear HE1 N4
      go_upto_region 10 with fail
      refine wp_region_lit ?_
      refine wpList_loadRow rfl _ _ rfl (w.heap.size + 1 + 1) rfl (R2.cells none none 0 0) _ (0, 0) HD2.out.out _ Tryz.underlying64 rfl (by kernel_rfl) ?_
      go_wp2_with fail
      refine (HK.out _ _).mono ?_
      rintro e y2 ⟨rfl, b1⟩
      have HE2 := hidr (HD2.out.below b1)
      clear HD2 b1
      go_upto_if 29 with fail
      go_cut [] from 28 to 31 (fun wx => Hid (DecAt w wx s p5 e5 (R3.cells none none 0 0)))
      case first =>
        cases hb : keyB R2 with
        | false =>
          go_wp2_with fail
          go_meet
          case rel =>
            have h3 := N5.out
            unfold keyF at h3
            simp only [hb, if_false, Bool.false_eq_true, Prod.mk.injEq] at h3
            obtain ⟨rfl, rfl, rfl⟩ := h3
            exact HE2
        | true =>
          have h3 := N5.out
          unfold keyF at h3
          simp only [hb, if_true, keyG] at h3
          simp only [Prod.mk.injEq] at h3
          obtain ⟨rfl, rfl, rfl⟩ := h3
          have HT := hidr (takeKey_any HE2.out.rd R2 none none 0 0 (by omega) HE2.out.out rfl rfl rfl rfl rfl)
          go_wp2_with fail
          refine HT.out.mono ?_
          rintro e t1 ⟨rfl, ht⟩
          have HX := hidr (HE2.out.take ht)
          clear HT HE2 ht
          go_wp2_with fail
          go_meet
          case rel => exact HX
      case rest =>
        have HD3 := hcut
        clear HE2 N5
        go_upto_region 12 with fail
        refine wp_region_lit ?_
        refine wpList_loadRow rfl _ _ rfl (w.heap.size + 1 + 1) rfl (R3.cells none none 0 0) _ (0, 0) HD3.out.out _ Tryz.underlying64 rfl (by kernel_rfl) ?_
        go_wp2_with fail
        refine (HL.out _ _).mono ?_
        rintro e y3 ⟨rfl, b1⟩
        have HE3 := hidr (HD3.out.below b1)
        clear HD3 b1
        go_upto_if 33 with fail
        go_cut [] from 32 to 39 (fun wx => ∃ (ta da : Option Addr) (tc dc : Nat), Hid (DecAt w wx s p6 e6 (R4.cells ta da tc dc)) ∧ Hid (ListsHeld (w.heap.size + 1 + 1) wx ta da R4))
        case first =>
          cases hb : listsB R3 with
          | false =>
            go_wp2_with fail
            go_meet
            case rel =>
              have h3 := N6.out
              unfold listsF at h3
              simp only [hb, if_false, Bool.false_eq_true, Prod.mk.injEq] at h3
              obtain ⟨rfl, rfl, rfl⟩ := h3
              exact ⟨none, none, 0, 0, HE3, fun _ _ _ => ⟨.inl HR3.out.1, .inl HR3.out.2⟩⟩
          | true =>
            have h3 := N6.out
            unfold listsF at h3
            simp only [hb, if_true, listsG] at h3
            have hc1 := countF_le s p5 e5 64
            obtain ⟨⟨pa, ea, na⟩, HA⟩ : ∃ X, Hid (countF s p5 e5 64 = X) := ⟨_, rfl⟩
            rw [HA.out] at h3 hc1
            simp only at h3 hc1
            have hl1 := txK_length s pa ea na
            obtain ⟨⟨pb, eb, LT⟩, HB⟩ : ∃ X, Hid (txK s pa ea na = X) := ⟨_, rfl⟩
            rw [HB.out] at h3 hl1
            simp only at h3 hl1
            have hc2 := countF_le s pb eb 256
            obtain ⟨⟨pc, ec, nc⟩, HCC⟩ : ∃ X, Hid (countF s pb eb 256 = X) := ⟨_, rfl⟩
            rw [HCC.out] at h3 hc2
            simp only at h3 hc2
            have hl2 := dirK_length s pc ec nc
            obtain ⟨⟨pd, ed, LD⟩, HDD⟩ : ∃ X, Hid (dirK s pc ec nc = X) := ⟨_, rfl⟩
            rw [HDD.out] at h3 hl2
            simp only [Prod.mk.injEq] at h3 hl2
            obtain ⟨rfl, rfl, hR4⟩ := h3
            have HR4 := hidr hR4
            clear hR4
            have HT := hidr (takeTxs_any HE3.out.rd HA.out hc1)
            rw [HB.out] at HT
            simp only at HT
            go_wp2_with fail
            refine HT.out.mono ?_
            rintro e t1 ⟨bs, rfl, hbs, hbs1, hrow, hr1, o1⟩
            have HX := hidr (HE3.out.only o1 hr1)
            have hsz := HE3.out.out.lt
            have xx := HX.out.out.cell 15
            have ff := HX.out.out.frozen 15
            obtain ⟨t2, HW2⟩ : ∃ y, Hid (y = t1.setCell ⟨w.heap.size + 1 + 1, 15, none⟩ (.slice (some ⟨bs, 0, none⟩) na na)) := ⟨_, rfl⟩
            have HX2 := hidr (HX.out.set 15 (.slice (some ⟨bs, 0, none⟩) na na))
            rw [← HW2.out] at HX2
            have HROW2 : Hid (RowV t2 bs (na * 4) (cellT LT)) := by show RowV _ _ _ _; rw [HW2.out]; exact hrow.set_other (by omega) _
            have hz2 : bs < t2.heap.size := by rw [HW2.out]; simpa using hbs1
            have HT2 := hidr (takeDirty_any HX2.out.rd HCC.out hc2)
            rw [HDD.out] at HT2
            simp only at HT2
            clear HT hrow hr1 o1
            go_wp2_with fail
            rw [← HW2.out]
            clear HW2 HX xx ff
            refine HT2.out.mono ?_
            rintro e t3 ⟨bd, rfl, hbd, hbd1, hrow3, hr3, o3⟩
            have HX3 := hidr (HX2.out.only o3 hr3)
            have HROW3 := hidr (HROW2.out.only o3 hz2 (by omega))
            have hz3 : bs < t3.heap.size := by have := o3.size; omega
            have xx := HX3.out.out.cell 16
            have ff := HX3.out.out.frozen 16
            clear HT2 HX2 HROW2 hr3 o3
            go_wp2_with fail
            go_meet
            case rel =>
              refine ⟨some ⟨bs, 0, none⟩, some ⟨bd, 0, none⟩, na, nc, ?_, ?_⟩
              · have := HX3.out.set 16 (.slice (some ⟨bd, 0, none⟩) nc nc)
                show DecAt _ _ _ _ _ _
                rw [← HR4.out]
                unfold RecV.cells
                simp only [hl1, hl2]
                exact this
              · show ListsHeld _ _ _ _ _
                intro wx' hk' hz'
                rw [← HR4.out]
                have e1 : wx'.heap[bs]? = _ := hk' bs (by omega) (by simpa using hz3)
                have e2 : wx'.heap[bd]? = _ := hk' bd (by omega) (by simpa using hbd1)
                refine ⟨txs_of_row (by rw [hl1]; exact (HROW3.out.set_other (by omega) _).same e1) (Nat.lt_of_lt_of_le (by simpa using hz3) hz'), dis_of_row (by rw [hl2]; exact (hrow3.set_other (by omega) _).same e2) (Nat.lt_of_lt_of_le (by simpa using hbd1) hz')⟩
        case rest =>
          obtain ⟨ta, da, tc, dc, HD4, HTX⟩ := hcut
          clear HE3 N6 HR3
          have hEb : (E != 0) = true := by simpa using NH.out
          have HEN : Hid (Calls Tryz.prog 68 #[.pointer (some ⟨w.heap.size + 1, 0, none⟩)] wc fun y w' => y = .returned (.int .i64 E) ∧ IsReader w' (w.heap.size + 1) s p6 E ∧ Only (w.heap.size + 1) wc w') := by
            have := end_any HD4.out.rd
            rw [NE.out] at this
            exact this
          go_wp2_with fail
          refine HEN.out.mono ?_
          rintro e y9 ⟨rfl, hr4, o4⟩
          have HD5 := hidr (HD4.out.only o4 hr4)
          clear HD4 HEN hr4 o4 HTX HN HC HK HL
          obtain ⟨hres, hbel⟩ := (show y9.heap[w.heap.size]? = some (.cells zeroCellsR 64 (0, 0)) ∧ Below w.heap.size w y9 from ⟨HD5.out.res, HD5.out.bel⟩)
          have HRES := hidr hres
          have HBEL := hidr hbel
          clear hres hbel
          go_upto_region 16 with fail
          refine wp_region_lit ?_
          refine wpList_buildNone rfl 64 rfl zeroCellsR (by kernel_rfl) ?_
          refine wpList_storeRow rfl _ _ _ rfl rfl w.heap.size rfl zeroCellsR zeroCellsR rfl _ HRES.out (by kernel_rfl) rfl (by kernel_rfl) ?_
          rw [setRow_self _ _ _ _ _ HRES.out]
          have hb : BlkR y9 w.heap.size (refCells (plainV 0 0 0) (.slice none 0 0) (.slice none 0 0)) 64 := HRES.out
          obtain ⟨z0, z1, z2, z3, z4, z5, z6, z7, z8, z9, z10, z11, z12, z13, z14, z15, z16⟩ := out_cells hb
          clear hb HRES
          go_wp2_with fail
          refine bodyPost_ret (v := .tuple #[.agg (refCells (plainV 0 0 0) (.slice none 0 0) (.slice none 0 0)), .int .i64 40]) (by simp [results, Tryz.results22, go_sem, z0, z1, z2, z3, z4, z5, z6, z7, z8, z9, z10, z11, z12, z13, z14, z15, z16, refCells]) rfl ?_
          exact ⟨rfl, HBEL.out⟩

end Go.Proofs.YtgkfdakieebnmaaGreat

namespace Go.Proofs.YtgkfdakieebnmaaGreat
open Go.RowKit Go.Sort

theorem decode_bad' (s : ByteArray) (w : World) (hs : s.size ≤ 281474976710656) (he : endE s (readR s).1 (readR s).2.1 ≠ 0) :
    Calls Tryz.prog 22 #[.string s] w fun e w' => e = .returned (.tuple #[.agg zeroCellsR, .int .i64 40]) ∧ Below w.heap.size w w' :=
  decode_bad s w hs rfl rfl rfl rfl rfl rfl rfl he

theorem decode_good' (s : ByteArray) (w : World) (hs : s.size ≤ 281474976710656) {p : Nat} {r : RecV} (hr : readR s = (p, 0, r)) (he : endE s p 0 = 0) (hc : rcheckE r = 0) (hok : ∀ wx ta da, TxsAt wx ta r.txs → DisAt wx da r.dirty → r.Ok wx ta da) :
    Calls Tryz.prog 22 #[.string s] w fun e w' => ∃ ta da tc dc, e = .returned (.tuple #[.agg (r.cells ta da tc dc), .int .i64 0]) ∧ Below w.heap.size w w' ∧ TxsAt w' ta r.txs ∧ DisAt w' da r.dirty := by
  have h1 : (readR s).1 = p := by rw [hr]
  have h2 : (readR s).2.1 = 0 := by rw [hr]
  have h3 : (readR s).2.2 = r := by rw [hr]
  subst h3
  refine decode_good s w hs rfl rfl rfl rfl rfl rfl rfl ?_ hc hok
  show endE s (readR s).1 (readR s).2.1 = 0
  rw [h1, h2]
  exact he

end Go.Proofs.YtgkfdakieebnmaaGreat
