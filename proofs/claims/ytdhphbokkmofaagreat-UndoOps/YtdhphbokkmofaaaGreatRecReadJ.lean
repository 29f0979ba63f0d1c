/-
  What a record's bytes are read as: a taker that meets no error reads the same of longer bytes; what was put is read again.
-/
import Derived.Test.YtdhphbokkmofaaaGreatRecDecodeC
import Derived.Test.YtdhphbokkmofaaaGreatRecPutsJ
import Derived.Test.YtdhphbokkmofaaaGreatRowOpsJ
import Derived.Test.YtdhphbokkmofaaaGreatRecDec0J
import Derived.Test.YtdhphbokkmofaaaGreatWalFrameJ
set_option linter.unusedVariables false
set_option linter.unusedSimpArgs false
namespace Go.Proofs.YtdhphbokkmofaaaGreat
open Go.RowKit Go.Sort

abbrev Tk (α : Type) := ByteArray → Nat → Int → Nat × Int × α

def bindK {α β : Type} (F : Tk α) (G : α → Tk β) : Tk β := fun s p e => G (F s p e).2.2 s (F s p e).1 (F s p e).2.1
def retK {α : Type} (v : α) : Tk α := fun s p e => (p, e, v)
def numK (n : Nat) : Tk Nat := fun s p e => numF s p e n
def textK (m : Nat) : Tk (List UInt8) := fun s p e => textF s p e m
def boolK : Tk Bool := fun s p e => boolF s p e
def countK (m : Nat) : Tk Nat := fun s p e => countF s p e m
def txsK (k : Nat) : Tk (List TxV) := fun s p e => txK s p e k
def disK (k : Nat) : Tk (List DiV) := fun s p e => dirK s p e k

def IsPre (t s : ByteArray) : Prop := ∃ z, s.data.toList = t.data.toList ++ z

theorem IsPre.size {t s : ByteArray} (h : IsPre t s) : t.size ≤ s.size := by
  obtain ⟨z, hz⟩ := h
  have := congrArg List.length hz
  simp at this
  omega

theorem IsPre.part {t s : ByteArray} (h : IsPre t s) {p n : Nat} (hn : p + n ≤ t.size) : part s p n = part t p n := by
  obtain ⟨z, hz⟩ := h
  have hl : t.data.toList.length = t.size := by simp
  unfold Go.Proofs.YtdhphbokkmofaaaGreat.part
  rw [hz, List.drop_append_of_le_length (by omega), List.take_append_of_le_length (by rw [List.length_drop]; omega)]

structure SureK {α : Type} (F : Tk α) : Prop where
  err : ∀ s p e, e ≠ 0 → (F s p e).2.1 ≠ 0
  ext : ∀ t s p p' v, IsPre t s → p ≤ t.size → F t p 0 = (p', 0, v) → p ≤ p' ∧ p' ≤ t.size ∧ F s p 0 = (p', 0, v)

theorem SureK.ret {α : Type} (v : α) : SureK (retK v) := by
  refine ⟨fun s p e h => h, fun t s p p' u hp hl h => ?_⟩
  simp only [retK, Prod.mk.injEq] at h
  obtain ⟨rfl, _, rfl⟩ := h
  exact ⟨Nat.le_refl _, hl, rfl⟩

theorem SureK.bind {α β : Type} {F : Tk α} {G : α → Tk β} (hF : SureK F) (hG : ∀ v, SureK (G v)) : SureK (bindK F G) := by
  refine ⟨fun s p e h => (hG _).err _ _ _ (hF.err s p e h), fun t s p p' v hp hl h => ?_⟩
  unfold bindK at h ⊢
  cases hft : F t p 0 with
  | mk p1 q =>
    obtain ⟨e1, v1⟩ := q
    rw [hft] at h
    simp only at h
    have he : e1 = 0 := by
      by_cases c : e1 = 0
      · exact c
      · have := (hG v1).err t p1 e1 c
        rw [h] at this
        exact absurd rfl this
    subst he
    obtain ⟨a1, a2, a3⟩ := hF.ext t s p p1 v1 hp hl hft
    obtain ⟨b1, b2, b3⟩ := (hG v1).ext t s p1 p' v hp a2 h
    rw [a3]
    exact ⟨by omega, b2, b3⟩

theorem SureK.ite {α : Type} {F G : Tk α} (c : Prop) [Decidable c] (hF : SureK F) (hG : SureK G) : SureK (if c then F else G) := by
  split
  · exact hF
  · exact hG

theorem SureK.num (n : Nat) : SureK (numK n) := by
  refine ⟨fun s p e h => by unfold numK numF; rw [if_pos h]; exact h, fun t s p p' v hp hl h => ?_⟩
  have hz := hp.size
  unfold numK numF at h ⊢
  rw [if_neg (by simp)] at h ⊢
  by_cases c1 : (n : Int) < 0 ∨ 8 < (n : Int)
  · rw [if_pos c1] at h; simp at h
  · rw [if_neg c1] at h ⊢
    rw [Int.toNat_natCast] at h ⊢
    by_cases c2 : t.size < p + n
    · rw [if_pos c2] at h; simp at h
    · rw [if_neg c2] at h
      simp only [Prod.mk.injEq, true_and] at h
      rw [if_neg (by omega), hp.part (by omega)]
      exact ⟨by omega, by omega, by rw [h.1, h.2]⟩

theorem SureK.text (m : Nat) : SureK (textK m) := by
  refine ⟨fun s p e h => by unfold textK textF; rw [if_pos h]; exact h, fun t s p p' v hp hl h => ?_⟩
  have hz := hp.size
  unfold textK textF at h ⊢
  rw [if_neg (by simp)] at h ⊢
  by_cases c1 : t.size < p + 2
  · rw [if_pos c1] at h; simp at h
  rw [if_neg c1] at h
  rw [if_neg (by omega), hp.part (by omega)]
  by_cases c2 : (m : Int) < (le (part t p 2) : Int)
  · rw [if_pos c2] at h; simp at h
  rw [if_neg c2] at h ⊢
  by_cases c3 : t.size < p + 2 + le (part t p 2)
  · rw [if_pos c3] at h; simp at h
  rw [if_neg c3] at h
  simp only [Prod.mk.injEq, true_and] at h
  rw [if_neg (by omega), hp.part (by omega)]
  exact ⟨by omega, by omega, by rw [h.1, h.2]⟩

theorem SureK.bool : SureK boolK := by
  refine ⟨fun s p e h => by unfold boolK boolF; rw [if_pos h]; exact h, fun t s p p' v hp hl h => ?_⟩
  have hz := hp.size
  unfold boolK boolF at h ⊢
  rw [if_neg (by simp)] at h ⊢
  by_cases c1 : t.size < p + 1
  · rw [if_pos c1] at h; simp at h
  rw [if_neg c1] at h
  rw [if_neg (by omega), hp.part (by omega)]
  by_cases c2 : 1 < le (part t p 1)
  · rw [if_pos c2] at h; simp at h
  rw [if_neg c2] at h ⊢
  simp only [Prod.mk.injEq, true_and] at h
  exact ⟨by omega, by omega, by rw [h.1, h.2]⟩

theorem SureK.count (m : Nat) : SureK (countK m) := by
  refine ⟨fun s p e h => ?_, fun t s p p' v hp hl h => ?_⟩
  · have hn : (numF s p e 2).2.1 ≠ 0 := (SureK.num 2).err s p e h
    unfold countK countF
    split
    · show failE (numF s p e 2).2.1 3 ≠ 0
      unfold failE
      rw [if_neg hn]; exact hn
    · exact hn
  · unfold countK countF at h ⊢
    by_cases c : m < (numF t p 0 2).2.2
    · rw [if_pos c] at h
      simp only [Prod.mk.injEq, failE] at h
      split at h <;> simp_all
    · rw [if_neg c] at h
      have hx := (SureK.num 2).ext t s p p' v hp hl h
      have h2 : numF s p 0 2 = (p', 0, v) := hx.2.2
      have h1 : numF t p 0 2 = (p', 0, v) := h
      rw [h1] at c
      rw [h2, if_neg c]
      exact ⟨hx.1, hx.2.1, rfl⟩

theorem SureK.txs (k : Nat) : SureK (txsK k) := by
  induction k with
  | zero => exact SureK.ret _
  | succ k ih =>
    have : txsK (k + 1) = bindK (txsK k) fun L => bindK (numK 4) fun a => bindK (numK 1) fun b => bindK (numK 8) fun c => bindK (numK 8) fun d => retK (L ++ [((a : Int), (b : Int), c, d)]) := rfl
    rw [this]
    exact ih.bind fun _ => (SureK.num 4).bind fun _ => (SureK.num 1).bind fun _ => (SureK.num 8).bind fun _ => (SureK.num 8).bind fun _ => SureK.ret _

theorem SureK.dis (k : Nat) : SureK (disK k) := by
  induction k with
  | zero => exact SureK.ret _
  | succ k ih =>
    have : disK (k + 1) = bindK (disK k) fun L => bindK (numK 4) fun a => bindK (numK 8) fun b => retK (L ++ [(a, b)]) := rfl
    rw [this]
    exact ih.bind fun _ => (SureK.num 4).bind fun _ => (SureK.num 8).bind fun _ => SureK.ret _

def headK : Tk RecV := bindK (numK 1) fun a => bindK (numK 4) fun b => bindK (numK 8) fun c => retK (plainV a b c)
def nextK (R : RecV) : Tk RecV := if nextB R then (bindK (numK 8) fun a => retK { R with next := a }) else retK R
def changeK (R : RecV) : Tk RecV := if changeB R then (bindK (numK 4) fun a => bindK (numK 1) fun b => bindK (numK 2) fun c => bindK (textK 65535) fun d => bindK (textK 65535) fun f => bindK (numK 1) fun g => retK { R with page := a, op := ⟨b, c, ⟨d.toArray⟩, ⟨f.toArray⟩⟩, undo := g }) else retK R
def keyK (R : RecV) : Tk RecV := if keyB R then (bindK (numK 2) fun a => bindK (textK 64) fun b => bindK (numK 4) fun c => bindK (numK 2) fun d => bindK boolK fun f => retK { R with index := a, key := ⟨b.toArray⟩, rpage := c, rslot := d, live := f }) else retK R
def listsK (R : RecV) : Tk RecV := if listsB R then (bindK (countK 64) fun a => bindK (txsK a) fun b => bindK (countK 256) fun c => bindK (disK c) fun d => retK { R with txs := b, dirty := d }) else retK R
def recK : Tk RecV := bindK headK fun a => bindK (nextK a) fun b => bindK (changeK b) fun c => bindK (keyK c) fun d => listsK d

theorem nextK_eq (R : RecV) : nextK R = fun s p e => rnextF s p e R := by
  funext s p e
  unfold nextK rnextF
  cases nextB R <;> rfl
theorem changeK_eq (R : RecV) : changeK R = fun s p e => changeF s p e R := by
  funext s p e
  unfold changeK changeF
  cases changeB R <;> rfl
theorem keyK_eq (R : RecV) : keyK R = fun s p e => keyF s p e R := by
  funext s p e
  unfold keyK keyF
  cases keyB R <;> rfl
theorem listsK_eq (R : RecV) : listsK R = fun s p e => listsF s p e R := by
  funext s p e
  unfold listsK listsF
  cases listsB R <;> rfl

theorem recK_eq (s : ByteArray) : readR s = recK s 0 0 := by
  unfold recK readR bindK
  simp only [nextK_eq, changeK_eq, keyK_eq, listsK_eq]
  rfl

theorem SureK.all : SureK recK := by
  unfold recK headK
  refine ((SureK.num 1).bind fun _ => (SureK.num 4).bind fun _ => (SureK.num 8).bind fun _ => SureK.ret _).bind fun a => SureK.bind ?_ fun b => SureK.bind ?_ fun c => SureK.bind ?_ fun d => ?_
  · unfold nextK
    exact SureK.ite _ ((SureK.num 8).bind fun _ => SureK.ret _) (SureK.ret _)
  · unfold changeK
    exact SureK.ite _ ((SureK.num 4).bind fun _ => (SureK.num 1).bind fun _ => (SureK.num 2).bind fun _ => (SureK.text _).bind fun _ => (SureK.text _).bind fun _ => (SureK.num 1).bind fun _ => SureK.ret _) (SureK.ret _)
  · unfold keyK
    exact SureK.ite _ ((SureK.num 2).bind fun _ => (SureK.text _).bind fun _ => (SureK.num 4).bind fun _ => (SureK.num 2).bind fun _ => SureK.bool.bind fun _ => SureK.ret _) (SureK.ret _)
  · unfold listsK
    exact SureK.ite _ ((SureK.count 64).bind fun _ => (SureK.txs _).bind fun _ => (SureK.count 256).bind fun _ => (SureK.dis _).bind fun _ => SureK.ret _) (SureK.ret _)

def PutsK {α : Type} (F : Tk α) (l : List UInt8) (v : α) : Prop := ∀ (s : ByteArray) (pre post : List UInt8), s.data.toList = pre ++ (l ++ post) → F s pre.length 0 = (pre.length + l.length, 0, v)

theorem PutsK.ret {α : Type} (v : α) : PutsK (retK v) [] v := fun s pre post h => rfl

theorem PutsK.bind {α β : Type} {F : Tk α} {G : α → Tk β} {l m : List UInt8} {v : α} {u : β} (hF : PutsK F l v) (hG : PutsK (G v) m u) : PutsK (bindK F G) (l ++ m) u := by
  intro s pre post h
  unfold bindK
  have h1 := hF s pre (m ++ post) (by rw [h]; simp)
  rw [h1]
  have h2 := hG s (pre ++ l) post (by rw [h]; simp)
  rw [List.length_append] at h2
  rw [h2, List.length_append, Nat.add_assoc]

theorem PutsK.bind0 {α β : Type} {F : Tk α} {G : α → Tk β} {l : List UInt8} {v : α} {u : β} (hF : PutsK F l v) (hG : PutsK (G v) [] u) : PutsK (bindK F G) l u := by
  have := hF.bind hG
  rwa [List.append_nil] at this

theorem PutsK.num {n x : Nat} (hn : n ≤ 8) (hx : x < 2 ^ (8 * n)) : PutsK (numK n) (putL x n) x := by
  intro s pre post h
  have hs := congrArg List.length h
  simp [putL_length] at hs
  unfold numK
  rw [numF_ok n hn (by omega), part_at h rfl (by rw [putL_length]), le_putL, Nat.mod_eq_of_lt hx, putL_length]

theorem PutsK.text {m : Nat} {S : ByteArray} (h1 : S.size ≤ m) (h2 : m ≤ 65535) : PutsK (textK m) (textB S) S.data.toList := by
  intro s pre post h
  have hl : S.data.toList.length = S.size := by simp
  unfold textB at h ⊢
  rw [if_pos (by omega)] at h ⊢
  have hs := congrArg List.length h
  simp [putL_length] at hs
  have hp : part s pre.length 2 = putL S.size 2 := part_at (post := S.data.toList ++ post) (by rw [h]; simp) rfl (by rw [putL_length])
  have hv : le (part s pre.length 2) = S.size := by rw [hp, le_putL, Nat.mod_eq_of_lt (by omega)]
  unfold textK
  rw [textF_ok m (by rw [hv]; omega) (by rw [hv]; omega), hv, List.length_append, putL_length, hl]
  have hq : part s (pre.length + 2) S.size = S.data.toList := part_at (pre := pre ++ putL S.size 2) (post := post) (by rw [h]; simp) (by rw [List.length_append, putL_length]) hl.symm
  rw [hq, Nat.add_assoc]

theorem PutsK.bool (b : Bool) : PutsK boolK (putL b.toNat 1) b := by
  intro s pre post h
  have hs := congrArg List.length h
  simp [putL_length] at hs
  have hb : b.toNat ≤ 1 := by cases b <;> decide
  have hp : part s pre.length 1 = putL b.toNat 1 := part_at h rfl (by rw [putL_length])
  have hv : le (part s pre.length 1) = b.toNat := by rw [hp, le_putL, Nat.mod_eq_of_lt (by omega)]
  unfold boolK boolF
  rw [if_neg (by simp), if_neg (by omega), hv, if_neg (by omega), putL_length]
  cases b <;> rfl

theorem PutsK.count {m n : Nat} (h1 : n ≤ m) (h2 : m ≤ 65535) : PutsK (countK m) (putL n 2) n := by
  intro s pre post h
  have hn : numF s pre.length 0 2 = (pre.length + (putL n 2).length, 0, n) := PutsK.num (n := 2) (by omega) (by omega) s pre post h
  unfold countK countF
  rw [hn, if_neg (by show ¬ m < n; omega)]

theorem PutsK.txs (L : List TxV) (h : ∀ t ∈ L, (0 ≤ t.1 ∧ t.1 ≤ 2147483647) ∧ (1 ≤ t.2.1 ∧ t.2.1 ≤ 3) ∧ t.2.2.1 < 18446744073709551616 ∧ t.2.2.2 < 18446744073709551616) (k : Nat) (hk : k ≤ L.length) : PutsK (txsK k) ((L.take k).flatMap txL) (L.take k) := by
  induction k with
  | zero => exact PutsK.ret _
  | succ k ih =>
    have hlt : k < L.length := by omega
    obtain ⟨h1, h2, h3, h4⟩ := h L[k] (List.getElem_mem _)
    have e1 : ((L[k].1.toNat : Nat) : Int) = L[k].1 := by omega
    have e2 : ((L[k].2.1.toNat : Nat) : Int) = L[k].2.1 := by omega
    have : txsK (k + 1) = bindK (txsK k) fun L => bindK (numK 4) fun a => bindK (numK 1) fun b => bindK (numK 8) fun c => bindK (numK 8) fun d => retK (L ++ [((a : Int), (b : Int), c, d)]) := rfl
    rw [this, List.take_succ_eq_append_getElem hlt, List.flatMap_append]
    refine (ih (by omega)).bind ?_
    simp only [List.flatMap_cons, List.flatMap_nil, List.append_nil]
    unfold txL
    refine (PutsK.num (by omega) (by omega)).bind ((PutsK.num (by omega) (by omega)).bind ((PutsK.num (by omega) (by omega)).bind ((PutsK.num (by omega) (by omega)).bind0 ?_)))
    rw [e1, e2]
    exact PutsK.ret _

theorem PutsK.dis (L : List DiV) (h : ∀ t ∈ L, t.1 < 4294967296 ∧ t.2 < 18446744073709551616) (k : Nat) (hk : k ≤ L.length) : PutsK (disK k) ((L.take k).flatMap diL) (L.take k) := by
  induction k with
  | zero => exact PutsK.ret _
  | succ k ih =>
    have hlt : k < L.length := by omega
    obtain ⟨h1, h2⟩ := h L[k] (List.getElem_mem _)
    have : disK (k + 1) = bindK (disK k) fun L => bindK (numK 4) fun a => bindK (numK 8) fun b => retK (L ++ [(a, b)]) := rfl
    rw [this, List.take_succ_eq_append_getElem hlt, List.flatMap_append]
    refine (ih (by omega)).bind ?_
    simp only [List.flatMap_cons, List.flatMap_nil, List.append_nil]
    unfold diL
    exact (PutsK.num (by omega) (by omega)).bind ((PutsK.num (by omega) (by omega)).bind0 (PutsK.ret _))

theorem bytes_listR (s : ByteArray) : s = ⟨s.data.toList.toArray⟩ := by cases s; simp

theorem sameR_eq {a b : RecV} (h : sameR a b = true) : a = b := by
  unfold sameR at h
  simp only [Bool.and_eq_true, decide_eq_true_eq] at h
  obtain ⟨k1, t1, p1, n1, g1, o1, u1, i1, e1, rp1, rs1, l1, tx1, d1⟩ := a
  obtain ⟨k2, t2, p2, n2, g2, o2, u2, i2, e2, rp2, rs2, l2, tx2, d2⟩ := b
  obtain ⟨o1k, o1a, o1S, o1o⟩ := o1
  obtain ⟨o2k, o2a, o2S, o2o⟩ := o2
  simp only [and_assoc] at h
  simp_all

theorem read_back {r : RecV} (hm : MayR r) (hw : r.Wide) (hprev : r.prev < 18446744073709551616) (hnext : r.next < 18446744073709551616) (hpage : r.page < 4294967296) (hrp : r.rpage < 4294967296) : PutsK recK (encR r) r := by
  have hr : r = namedV r := sameR_eq hm.same
  have ek : ((r.kind.toNat : Nat) : Int) = r.kind := by have := hm.kind; omega
  have et : ((r.tx.toNat : Nat) : Int) = r.tx := by have := hm.tx; omega
  unfold recK encR
  have hh : PutsK headK (putL r.kind.toNat 1 ++ (putL r.tx.toNat 4 ++ putL r.prev 8)) (plainV r.kind.toNat r.tx.toNat r.prev) := by
    unfold headK
    have h1 := hm.kind
    have h2 := hm.tx
    exact (PutsK.num (by omega) (by omega)).bind ((PutsK.num (by omega) (by omega)).bind ((PutsK.num (by omega) (by omega)).bind0 (PutsK.ret _)))
  rw [show putL r.kind.toNat 1 ++ (putL r.tx.toNat 4 ++ (putL r.prev 8 ++ ((if nextB r then putL r.next 8 else []) ++ ((if changeB r then changeL r else []) ++ ((if keyB r then rkeyL r else []) ++ (if listsB r then txsL r.txs ++ disL r.dirty else [])))))) = (putL r.kind.toNat 1 ++ (putL r.tx.toNat 4 ++ putL r.prev 8)) ++ ((if nextB r then putL r.next 8 else []) ++ ((if changeB r then changeL r else []) ++ ((if keyB r then rkeyL r else []) ++ (if listsB r then txsL r.txs ++ disL r.dirty else [])))) from by simp]
  refine hh.bind ?_
  -- the record as it grows
  obtain ⟨R0, hR0⟩ : ∃ R0, plainV r.kind.toNat r.tx.toNat r.prev = R0 := ⟨_, rfl⟩
  obtain ⟨R1, hR1⟩ : ∃ R1 : RecV, { R0 with next := if nextB r then r.next else 0 } = R1 := ⟨_, rfl⟩
  obtain ⟨R2, hR2⟩ : ∃ R2 : RecV, { R1 with page := if changeB r then r.page else 0, op := if changeB r then r.op else ⟨0, 0, ⟨#[]⟩, ⟨#[]⟩⟩, undo := if changeB r then r.undo else 0 } = R2 := ⟨_, rfl⟩
  obtain ⟨R3, hR3⟩ : ∃ R3 : RecV, { R2 with index := if keyB r then r.index else 0, key := if keyB r then r.key else ⟨#[]⟩, rpage := if keyB r then r.rpage else 0, rslot := if keyB r then r.rslot else 0, live := if keyB r then r.live else false } = R3 := ⟨_, rfl⟩
  have k0 : R0.kind = r.kind := by rw [← hR0]; exact ek
  have k1 : R1.kind = r.kind := by rw [← hR1]; exact k0
  have k2 : R2.kind = r.kind := by rw [← hR2]; exact k1
  have k3 : R3.kind = r.kind := by rw [← hR3]; exact k2
  have b0 : nextB R0 = nextB r := by unfold nextB; rw [k0]
  have b1 : changeB R1 = changeB r := by unfold changeB; rw [k1]
  have b2 : keyB R2 = keyB r := by
    unfold keyB
    rw [k2, show R2.undo = if changeB r then r.undo else 0 from by rw [← hR2]]
    by_cases c : r.kind = 1 ∨ r.kind = 2
    · have : changeB r = true := by unfold changeB; simpa using c
      rw [this]; simp
    · simp [c]
  have b3 : listsB R3 = listsB r := by unfold listsB; rw [k3]
  rw [hR0]
  have hN : PutsK (nextK R0) (if nextB r then putL r.next 8 else []) R1 := by
    unfold nextK
    rw [b0]
    cases hb : nextB r with
    | true =>
      rw [hb] at hR1
      rw [if_pos rfl, if_pos rfl]
      refine (PutsK.num (by omega) (by omega)).bind0 ?_
      rw [← hR1]
      exact PutsK.ret _
    | false =>
      rw [hb] at hR1
      have : R1 = R0 := by rw [← hR1, ← hR0]; rfl
      rw [this]
      exact PutsK.ret _
  refine hN.bind ?_
  have hC : PutsK (changeK R1) (if changeB r then changeL r else []) R2 := by
    unfold changeK
    rw [b1]
    cases hb : changeB r with
    | true =>
      obtain ⟨c1, c2, c3, c4, c5, c6⟩ := hm.change hb
      rw [hb] at hR2
      rw [if_pos rfl, if_pos rfl]
      unfold changeL
      refine (PutsK.num (by omega) (by omega)).bind ((PutsK.num (by omega) (by omega)).bind ((PutsK.num (by omega) (by omega)).bind ((PutsK.text (by omega) (by omega)).bind ((PutsK.text (by omega) (by omega)).bind ((PutsK.num (by omega) (by omega)).bind0 ?_)))))
      rw [← hR2]
      have a1 : ((r.op.kind.toNat : Nat) : Int) = r.op.kind := by omega
      have a2 : ((r.op.at'.toNat : Nat) : Int) = r.op.at' := by omega
      have a3 : ((r.undo.toNat : Nat) : Int) = r.undo := by omega
      rw [a1, a2, a3, ← bytes_listR, ← bytes_listR]
      exact PutsK.ret _
    | false =>
      rw [hb] at hR2
      have : R2 = R1 := by rw [← hR2, ← hR1, ← hR0]; rfl
      rw [this]
      exact PutsK.ret _
  refine hC.bind ?_
  have hK : PutsK (keyK R2) (if keyB r then rkeyL r else []) R3 := by
    unfold keyK
    rw [b2]
    cases hb : keyB r with
    | true =>
      obtain ⟨c1, c2, c3⟩ := hm.key hb
      rw [hb] at hR3
      rw [if_pos rfl, if_pos rfl]
      unfold rkeyL
      refine (PutsK.num (by omega) (by omega)).bind ((PutsK.text (by omega) (by omega)).bind ((PutsK.num (by omega) (by omega)).bind ((PutsK.num (by omega) (by omega)).bind ((PutsK.bool _).bind0 ?_))))
      rw [← hR3]
      have a1 : ((r.index.toNat : Nat) : Int) = r.index := by omega
      have a2 : ((r.rslot.toNat : Nat) : Int) = r.rslot := by omega
      rw [a1, a2, ← bytes_listR]
      exact PutsK.ret _
    | false =>
      rw [hb] at hR3
      have : R3 = R2 := by rw [← hR3, ← hR2, ← hR1, ← hR0]; rfl
      rw [this]
      exact PutsK.ret _
  refine hK.bind ?_
  have hfin : ({ R3 with txs := if listsB r then r.txs else [], dirty := if listsB r then r.dirty else [] } : RecV) = r := by
    conv => rhs; rw [hr]
    rw [← hR3, ← hR2, ← hR1, ← hR0]
    unfold plainV namedV
    simp only [ek, et]
  unfold listsK
  rw [b3]
  cases hb : listsB r with
  | true =>
    obtain ⟨c1, c2, c3⟩ := hm.lists hb
    rw [hb] at hfin
    rw [if_pos rfl, if_pos rfl]
    have hT := PutsK.txs r.txs (fun t ht => by
      obtain ⟨i, hi, rfl⟩ := List.mem_iff_getElem.1 ht
      have := c3 _ ht
      have := hw.txs i hi
      exact ⟨by omega, by omega, by omega, by omega⟩) r.txs.length (Nat.le_refl _)
    have hD := PutsK.dis r.dirty (fun t ht => by
      obtain ⟨i, hi, rfl⟩ := List.mem_iff_getElem.1 ht
      exact hw.dirty i hi) r.dirty.length (Nat.le_refl _)
    rw [List.take_length] at hT hD
    unfold txsL disL
    rw [List.append_assoc]
    refine (PutsK.count c1 (by omega)).bind (hT.bind ((PutsK.count c2 (by omega)).bind (hD.bind0 ?_)))
    rw [← hfin]
    exact PutsK.ret _
  | false =>
    rw [hb] at hfin
    have : R3 = r := by
      rw [← hfin, ← hR3, ← hR2, ← hR1, ← hR0]; rfl
    rw [this]
    exact PutsK.ret _

theorem enc_reads {r : RecV} (hm : MayR r) (hw : r.Wide) (hprev : r.prev < 18446744073709551616) (hnext : r.next < 18446744073709551616) (hpage : r.page < 4294967296) (hrp : r.rpage < 4294967296) :
    (∀ k, k < (encR r).length → endE ((ByteArray.mk (encR r).toArray).extract 0 k) (readR ((ByteArray.mk (encR r).toArray).extract 0 k)).1 (readR ((ByteArray.mk (encR r).toArray).extract 0 k)).2.1 ≠ 0) ∧
    (∀ z : ByteArray, readR (ByteArray.mk (encR r).toArray ++ z) = ((encR r).length, 0, r)) := by
  have hb := read_back hm hw hprev hnext hpage hrp
  have hall : ∀ z : ByteArray, readR (ByteArray.mk (encR r).toArray ++ z) = ((encR r).length, 0, r) := fun z => by
    rw [recK_eq]
    have := hb (ByteArray.mk (encR r).toArray ++ z) [] z.data.toList (by simp [ByteArray.data_append])
    simpa using this
  refine ⟨fun k hk he => ?_, hall⟩
  obtain ⟨t, ht⟩ : ∃ t, (ByteArray.mk (encR r).toArray).extract 0 k = t := ⟨_, rfl⟩
  rw [ht] at he
  have hsz : (ByteArray.mk (encR r).toArray).size = (encR r).length := by show (encR r).toArray.size = _; simp
  have hts : t.size = k := by rw [← ht, ByteArray.size_extract, hsz]; omega
  have hpre : IsPre t (ByteArray.mk (encR r).toArray) := by
    refine ⟨(encR r).drop k, ?_⟩
    rw [← ht, ByteArray.data_extract, Array.toList_extract, List.extract_eq_take_drop]
    simp
  have hf : readR (ByteArray.mk (encR r).toArray) = ((encR r).length, 0, r) := by
    have := hall ⟨#[]⟩
    rwa [show ByteArray.mk (encR r).toArray ++ (⟨#[]⟩ : ByteArray) = ByteArray.mk (encR r).toArray from by apply ByteArray.ext; simp [ByteArray.data_append]] at this
  cases hq : readR t with
  | mk p q =>
    obtain ⟨e, v⟩ := q
    rw [hq] at he
    unfold endE at he
    simp only at he
    split at he
    · cases he
    · subst he
      rw [recK_eq] at hq hf
      obtain ⟨_, h2, h3⟩ := SureK.all.ext t _ 0 p v hpre (Nat.zero_le _) hq
      rw [hf] at h3
      simp only [Prod.mk.injEq] at h3
      omega

end Go.Proofs.YtdhphbokkmofaaaGreat

namespace Go.Proofs.YtdhphbokkmofaaaGreat
open Go.RowKit Go.Sort

theorem decode_good' (s : ByteArray) (w : World) (hs : s.size ≤ 281474976710656) {p : Nat} {r : RecV} (hr : readR s = (p, 0, r)) (he : endE s p 0 = 0) (hc : rcheckE r = 0) (hok : ∀ wx ta da, TxsAt wx ta r.txs → DisAt wx da r.dirty → r.Ok wx ta da) :
    Calls Tryz.prog 200 #[.string s] w fun e w' => ∃ ta da tc dc, e = .returned (.tuple #[.agg (r.cells ta da tc dc), .int .i64 0]) ∧ Below w.heap.size w w' ∧ TxsAt w' ta r.txs ∧ DisAt w' da r.dirty := by
  have h1 : (readR s).1 = p := by rw [hr]
  have h2 : (readR s).2.1 = 0 := by rw [hr]
  have h3 : (readR s).2.2 = r := by rw [hr]
  subst h3
  refine decode_good s w hs rfl rfl rfl rfl rfl rfl rfl ?_ hc hok
  show endE s (readR s).1 (readR s).2.1 = 0
  rw [h1, h2]
  exact he

end Go.Proofs.YtdhphbokkmofaaaGreat

namespace Go.Proofs.YtdhphbokkmofaaaGreat
open Go.RowKit

def placeOf (rs : List ByteArray) : Nat → Nat
  | 0 => 1
  | i + 1 => placeOf rs i + ((rs.getD i ⟨#[]⟩).size + 12)

structure RecsAt (l : LG) (rs : List ByteArray) : Prop where
  starts : l.starts = (List.range rs.length).map (placeOf rs)
  long : l.bytes.length + 1 = placeOf rs rs.length
  text : ∀ i, i < rs.length → (l.bytes.drop (placeOf rs i + 7)).take (rs.getD i ⟨#[]⟩).size = (rs.getD i ⟨#[]⟩).data.toList

theorem placeOf_snoc (rs : List ByteArray) (r : ByteArray) : ∀ i, i ≤ rs.length → placeOf (rs ++ [r]) i = placeOf rs i
  | 0, _ => rfl
  | i + 1, h => by
    have e : (rs ++ [r]).getD i ⟨#[]⟩ = rs.getD i ⟨#[]⟩ := by
      rw [List.getD_eq_getElem?_getD, List.getD_eq_getElem?_getD, List.getElem?_append_left (by omega)]
    show placeOf (rs ++ [r]) i + _ = placeOf rs i + _
    rw [placeOf_snoc rs r i (by omega), e]

theorem getD_last (rs : List ByteArray) (r : ByteArray) : (rs ++ [r]).getD rs.length ⟨#[]⟩ = r := by
  rw [List.getD_eq_getElem?_getD, List.getElem?_append_right (Nat.le_refl _)]
  simp

theorem placeOf_pos (rs : List ByteArray) : ∀ i, 1 ≤ placeOf rs i
  | 0 => Nat.le_refl _
  | i + 1 => by
    have := placeOf_pos rs i
    show 1 ≤ placeOf rs i + _
    omega

theorem placeOf_mono (rs : List ByteArray) {i j : Nat} (h : i ≤ j) : placeOf rs i + 12 * (j - i) ≤ placeOf rs j := by
  induction h with
  | refl => simp
  | step h ih =>
    rename_i m
    have h' : i ≤ m := h
    show _ ≤ placeOf rs m + (_ + 12)
    omega

theorem RecsAt.nil (p : Nat) : RecsAt (log0 p) [] := ⟨rfl, rfl, fun i h => absurd h (Nat.not_lt_zero _)⟩

theorem frame_text (a : Nat) (r : List UInt8) : ((frameL a r).drop 8).take r.length = r := by
  have e : frameL a r = (putL r.length 4 ++ putL (crcSum 0 (putL a 8 ++ r)) 4) ++ (r ++ putL r.length 4) := by simp [frameL]
  rw [e]
  have e8 : (putL r.length 4 ++ putL (crcSum 0 (putL a 8 ++ r)) 4).length = 8 := by simp [putL_length]
  generalize putL r.length 4 ++ putL (crcSum 0 (putL a 8 ++ r)) 4 = X at e8 ⊢
  rw [← e8, List.drop_left, List.take_left]

theorem RecsAt.snoc {l : LG} {rs : List ByteArray} (h : RecsAt l rs) (r : ByteArray) : RecsAt (putG l r) (rs ++ [r]) := by
  have hl := h.long
  refine ⟨?_, ?_, ?_⟩
  · show l.starts ++ [l.bytes.length + 1] = _
    rw [List.length_append, List.length_singleton, List.range_succ, List.map_append, List.map_singleton, placeOf_snoc rs r _ (Nat.le_refl _), hl, h.starts]
    congr 1
    apply List.map_congr_left
    intro i hi
    rw [placeOf_snoc rs r i (Nat.le_of_lt (List.mem_range.1 hi))]
  · show (l.bytes ++ frameL _ _).length + 1 = placeOf (rs ++ [r]) (rs ++ [r]).length
    rw [List.length_append, List.length_append, List.length_singleton, frameL_length]
    show _ = placeOf (rs ++ [r]) rs.length + (((rs ++ [r]).getD rs.length ⟨#[]⟩).size + 12)
    rw [placeOf_snoc rs r _ (Nat.le_refl _), getD_last, ← hl]
    simp
    omega
  · intro i hi
    rw [List.length_append, List.length_singleton] at hi
    show ((l.bytes ++ frameL (l.bytes.length + 1) r.data.toList).drop _).take _ = _
    by_cases hn : i = rs.length
    · subst hn
      rw [getD_last, placeOf_snoc rs r _ (Nat.le_refl _), ← hl, show l.bytes.length + 1 + 7 = l.bytes.length + 8 by omega, List.drop_append, List.drop_of_length_le (by omega), List.nil_append, show l.bytes.length + 8 - l.bytes.length = 8 by omega]
      have := frame_text (l.bytes.length + 1) r.data.toList
      simpa using this
    · have hi' : i < rs.length := by omega
      have e : (rs ++ [r]).getD i ⟨#[]⟩ = rs.getD i ⟨#[]⟩ := by
        rw [List.getD_eq_getElem?_getD, List.getD_eq_getElem?_getD, List.getElem?_append_left hi']
      have hm := placeOf_mono rs (i := i + 1) (j := rs.length) (by omega)
      have hs : placeOf rs (i + 1) = placeOf rs i + ((rs.getD i ⟨#[]⟩).size + 12) := rfl
      have hp := placeOf_pos rs i
      rw [e, placeOf_snoc rs r i (by omega), List.drop_append_of_le_length (by omega), List.take_append_of_le_length (by rw [List.length_drop]; omega)]
      exact h.text i hi'

theorem RecsAt.len {l : LG} {rs : List ByteArray} (h : RecsAt l rs) : l.starts.length = rs.length := by rw [h.starts]; simp

theorem RecsAt.at {l : LG} {rs : List ByteArray} (h : RecsAt l rs) {i : Nat} (hi : i < rs.length) : l.starts.getD i 0 = placeOf rs i := by
  rw [h.starts, List.getD_eq_getElem?_getD]
  simp [hi]

theorem RecsAt.rising {l : LG} {rs : List ByteArray} (h : RecsAt l rs) : Rising l.starts := by
  intro a b hab hb
  rw [h.len] at hb
  rw [h.at hb, h.at (by omega)]
  have := placeOf_mono rs (Nat.le_of_lt hab)
  omega

end Go.Proofs.YtdhphbokkmofaaaGreat

namespace Go.Proofs.YtdhphbokkmofaaaGreat
open Go.RowKit

section
variable {w : World} {p : Nat} {S : Nat → Prop} {l : LG} {rs : List ByteArray}

theorem IsLog.lastStart (h : IsLog w p S l) : ∃ sa sc, w.cell? ⟨p, 2, none⟩ = some (.slice sa l.starts.length sc) ∧ (∀ j, j < l.starts.length → ∃ g, sa = some ⟨g, 0, none⟩ ∧ w.cell? ⟨g, j, none⟩ = some (.int .u64 (l.starts.getD j 0 : Nat))) := by
  obtain ⟨bv, sv, hL, _⟩ := h
  have ho := hL.starts
  rcases ho.2 with ⟨e1, e2⟩ | ⟨g, cap, cur, e1, _⟩
  · refine ⟨none, 0, by rw [e2]; rw [← e1]; exact hL.cells.c2, fun j hj => by omega⟩
  · refine ⟨some ⟨g, 0, none⟩, cap, by rw [← e1]; exact hL.cells.c2, fun j hj => ⟨g, rfl, ?_⟩⟩
    rw [e1] at ho
    have := owns_cells ho j (.int .u64 (l.starts.getD j 0 : Nat)) (by simp [lsnCells, hj])
    simpa [Addr.add_lit] using this

set_option maxHeartbeats 400000 in
set_option maxRecDepth 8000 in
theorem get_mid (h : IsLog w p S l) (hr : Rising l.starts) (hn : l.starts.length ≤ 10000000) (hb : l.bytes.length ≤ 4194304) (i x B : Nat) (hi : i + 1 < l.starts.length) (hx : l.starts.getD i 0 = x) (h1 : 1 ≤ x) (h2 : x + 12 ≤ B) (h3 : B = l.starts.getD (i + 1) 0) (h4 : B ≤ l.bytes.length + 1) :
    Calls Tryz.prog 199 #[.pointer (some ⟨p, 0, none⟩), .int .u64 x] w fun e w' => e = .returned (.tuple #[.string (recB l x B), .int .u64 (B : Nat), .bool true]) ∧ ∃ q, w' = w.drewN q := by
  obtain ⟨sa, sc, c2, hst⟩ := h.lastStart
  obtain ⟨sg, hsa, hcell⟩ := hst (i + 1) hi
  rw [← h3] at hcell
  subst hsa
  clear hst
  go_enter Tryz.func199, Tryz.ntmps199
  go_wp2_with fail
  refine (find_out h hr hn x).mono ?_
  rintro e w1 ⟨⟨i', b, rfl, hf⟩, q, rfl⟩
  obtain ⟨rfl, rfl⟩ := hf.here hr (by omega) hx
  have hD : IsLog (w.drewN q) p S l := h.same (fun _ _ => rfl) (Nat.le_refl _)
  go_wp2_with fail
  refine (end_out hD hb).mono ?_
  rintro e w1 ⟨rfl, rfl⟩
  obtain ⟨bv, sv, hL, _⟩ := h
  have c1 := hL.cells.c1
  rcases hL.bytes with ⟨e1, e2⟩ | ⟨g, cap, cur, fz, e1, hg, hfz, hlc, hcm, hcs, htk⟩
  · exfalso
    rw [e2] at h4
    simp at h4
    omega
  have hrow := hL.bytes
  rw [e1] at hrow c1
  clear hL
  have k1 : ((i' : Int) + 1 < (l.starts.length : Int)) ↔ True := by simp; omega
  have k2 : ((i' : Int) + 1).toNat = i' + 1 := by omega
  have hcv := ByteRow.text (w := w.drewN q) (hrow.same fun _ _ => rfl) (x - 1 + 8) (B - 1 - (x - 1) - 4 - 8) (cap - (x - 1) - 8) (by omega)
  have HE : Hid (ByteArray.mk ((l.bytes.drop (x - 1 + 8)).take (B - 1 - (x - 1) - 4 - 8)).toArray = recB l x B) := by
    unfold recB
    rw [show x - 1 + 8 = x + 7 by omega, show B - 1 - (x - 1) - 4 - 8 = B - x - 12 by omega]
    exact rfl
  rw [HE.out] at hcv
  clear hrow h3
  go_wp2
  go_ret3
  exact ⟨rfl, q, rfl⟩

theorem RecsAt.recB {l : LG} {rs : List ByteArray} (h : RecsAt l rs) {i : Nat} (hi : i < rs.length) : recB l (placeOf rs i) (placeOf rs (i + 1)) = rs.getD i ⟨#[]⟩ := by
  have hs : placeOf rs (i + 1) = placeOf rs i + ((rs.getD i ⟨#[]⟩).size + 12) := rfl
  unfold Go.Proofs.YtdhphbokkmofaaaGreat.recB
  rw [show placeOf rs (i + 1) - placeOf rs i - 12 = (rs.getD i ⟨#[]⟩).size by omega, h.text i hi]

theorem RecsAt.le {l : LG} {rs : List ByteArray} (h : RecsAt l rs) {i : Nat} (hi : i < rs.length) : placeOf rs i + 12 ≤ placeOf rs (i + 1) ∧ placeOf rs (i + 1) ≤ l.bytes.length + 1 := by
  have hs : placeOf rs (i + 1) = placeOf rs i + ((rs.getD i ⟨#[]⟩).size + 12) := rfl
  have := placeOf_mono rs (i := i + 1) (j := rs.length) (by omega)
  rw [h.long]
  omega

theorem get_recs (h : IsLog w p S l) (hR : RecsAt l rs) (hn : rs.length ≤ 10000000) (hb : l.bytes.length ≤ 4194304) (i : Nat) (hi : i < rs.length) :
    Calls Tryz.prog 199 #[.pointer (some ⟨p, 0, none⟩), .int .u64 (placeOf rs i : Nat)] w fun e w' => e = .returned (.tuple #[.string (rs.getD i ⟨#[]⟩), .int .u64 (placeOf rs (i + 1) : Nat), .bool true]) ∧ ∃ q, w' = w.drewN q := by
  have hl := hR.len
  have e := hR.le hi
  have e2 := hR.recB hi
  by_cases hi1 : i + 1 < rs.length
  · have := get_mid h hR.rising (by omega) hb i (placeOf rs i) (placeOf rs (i + 1)) (by omega) (hR.at hi) (placeOf_pos rs i) e.1 (hR.at hi1).symm e.2
    rw [e2] at this
    exact this
  · have hi2 : i + 1 = rs.length := by omega
    have := get_last h hR.rising (by omega) hb i (placeOf rs i) (placeOf rs (i + 1)) (by omega) (hR.at hi) (placeOf_pos rs i) e.1 (by rw [hi2]; exact hR.long.symm)
    rw [e2] at this
    exact this

end

end Go.Proofs.YtdhphbokkmofaaaGreat
