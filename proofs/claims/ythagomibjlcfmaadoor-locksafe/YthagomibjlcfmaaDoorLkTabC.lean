/-
  A table of locks in memory; the walks of lock.New, For, Waits, lay.
-/
import Derived.Test.YthagomibjlcfmaaDoorLkMapsC
import Derived.Test.YthagomibjlcfmaaDoorLkWithC
namespace Go.Proofs.YthagomibjlcfmaaDoor
open Go.RowKit
set_option linter.unusedVariables false
set_option linter.unusedSimpArgs false

/-- Outside the blocks S, and but for new blocks, w' is as w was. -/
structure KeptL (S : Nat → Prop) (w w' : World) : Prop where
  os : w'.os = w.os
  tape : w'.tape = w.tape
  output : w'.output = w.output
  size : w.heap.size ≤ w'.heap.size
  block : ∀ k, k < w.heap.size → ¬ S k → w'.heap[k]? = w.heap[k]?

theorem KeptL.refl (S : Nat → Prop) (w : World) : KeptL S w w := ⟨rfl, rfl, rfl, Nat.le_refl _, fun _ _ _ => rfl⟩
theorem KeptL.trans {S : Nat → Prop} {u v w : World} (h : KeptL S u v) (k : KeptL S v w) : KeptL S u w :=
  ⟨k.os.trans h.os, k.tape.trans h.tape, k.output.trans h.output, Nat.le_trans h.size k.size, fun i hi hs => (k.block i (Nat.lt_of_lt_of_le hi h.size) hs).trans (h.block i hi hs)⟩
theorem KeptL.mono {S S' : Nat → Prop} {w w' : World} (h : KeptL S w w') (k : ∀ b, S b → S' b) : KeptL S' w w' :=
  ⟨h.os, h.tape, h.output, h.size, fun i hi hs => h.block i hi fun x => hs (k i x)⟩
theorem KeptL.of_below {S : Nat → Prop} {w w' : World} (h : Below w.heap.size w w') : KeptL S w w' := ⟨h.os, h.tape, h.output, h.size, fun k hk _ => h.block k hk⟩
theorem KeptL.of_grown {S : Nat → Prop} {w w' : World} {row : Option Nat} (h : w.grownBy w' row) (k : ∀ b, row = some b → S b) : KeptL S w w' :=
  ⟨h.os, h.tape, h.output, h.size, fun i hi hs => h.block i hi fun e => hs (k i e.symm)⟩

/-- A step of what owns the blocks S, and then S'. -/
def MovesL (S S' : Nat → Prop) (w w' : World) : Prop := KeptL S w w' ∧ ∀ k, S' k → S k ∨ w.heap.size ≤ k

theorem MovesL.refl (S : Nat → Prop) (w : World) : MovesL S S w w := ⟨KeptL.refl _ _, fun _ h => .inl h⟩
theorem MovesL.trans {S S' S'' : Nat → Prop} {u v w : World} (h : MovesL S S' u v) (k : MovesL S' S'' v w) : MovesL S S'' u w :=
  ⟨⟨k.1.os.trans h.1.os, k.1.tape.trans h.1.tape, k.1.output.trans h.1.output, Nat.le_trans h.1.size k.1.size, fun i hi hs =>
      (k.1.block i (Nat.lt_of_lt_of_le hi h.1.size) fun x => by rcases h.2 i x with a | a; exact hs a; omega).trans (h.1.block i hi hs)⟩,
    fun i hi => by
      rcases k.2 i hi with a | a
      · exact h.2 i a
      · exact .inr (Nat.le_trans h.1.size a)⟩
theorem MovesL.off {S S' : Nat → Prop} {w w' : World} (h : MovesL S S' w w') {r : Nat} (hr : r < w.heap.size) (hs : ¬ S r) : w'.heap[r]? = w.heap[r]? ∧ ¬ S' r :=
  ⟨h.1.block r hr hs, fun x => by rcases h.2 r x with a | a; exact hs a; omega⟩
theorem MovesL.of_below {S : Nat → Prop} {w w' : World} (h : Below w.heap.size w w') : MovesL S S w w' := ⟨KeptL.of_below h, fun _ x => .inl x⟩

/-- A table as plain data: the queues, who waits for what, how many locks there are, and a bound of those that wait. -/
structure Tab where
  Q : NameV → List Pl
  W : Int → Option NameV
  z : Nat
  y : Nat

def nilS : Value := .slice none 0 0
def ptr (b : Nat) : Value := .pointer (some ⟨b, 0, none⟩)
def zeroN : Value := .agg #[.int .i64 0, .int .i64 0, .int .u32 0, .int .i64 0]

/-- A number that an int may be. -/
def i64R (t : Int) : Prop := -9223372036854775808 ≤ t ∧ t ≤ 9223372036854775807

/-- Where a table lies: all of it but, perhaps, the queue of one lock. -/
structure TabX (ex : NameV → Prop) (S : Nat → Prop) (w : World) (b bq bw : Nat) (DQ DW : DataW Value) (T : Tab) : Prop where
  blk : w.heap[b]? = some (.cells #[.map (some bq), .map (some bw)] 55)
  mq : MapV 33 w bq T.z DQ
  mw : MapV 3 w bw (Maps.size DW) DW
  y : Maps.size DW ≤ T.y
  hasq : ∀ n l, NKey n l → Maps.has DQ l = !(T.Q n).isEmpty
  valq : ∀ n l, NKey n l → ¬ ex n → QAt w (getV DQ l nilS) (T.Q n)
  apart : ∀ n n' l l' g, NKey n l → NKey n' l' → n ≠ n' → (getV DQ l nilS).ownBlock = some g → (getV DQ l' nilS).ownBlock ≠ some g
  rows : ∀ n l g, NKey n l → (getV DQ l nilS).ownBlock = some g → S g ∧ g ≠ b ∧ g ≠ bq ∧ g ≠ bw
  hasw : ∀ t, i64R t → Maps.has DW (tkey t) = (T.W t).isSome
  valw : ∀ t n, i64R t → T.W t = some n → getV DW (tkey t) zeroN = nval n
  sb : S b
  sq : S bq
  sw : S bw
  ne : b ≠ bq ∧ b ≠ bw ∧ bq ≠ bw
  lt : ∀ k, S k → k < w.heap.size
  keys : ∀ l, Maps.has DQ l = true → ∃ n, NKey n l

def noEx : NameV → Prop := fun _ => False

/-- Block b is a table that owns the blocks S. -/
def IsTab (S : Nat → Prop) (w : World) (b : Nat) (T : Tab) : Prop := ∃ bq bw DQ DW, TabX noEx S w b bq bw DQ DW T

theorem blkL_same {w w' : World} {b : Nat} {o : Obj} (h : w.heap[b]? = some o) (e : w'.heap[b]? = w.heap[b]?) : w'.heap[b]? = some o := e.trans h

section
variable {ex : NameV → Prop} {S : Nat → Prop} {w w' : World} {b bq bw : Nat} {DQ DW : DataW Value} {T : Tab}

theorem TabX.keep (h : TabX ex S w b bq bw DQ DW T) (hs : w.heap.size ≤ w'.heap.size) (k : ∀ g, S g → w'.heap[g]? = w.heap[g]?) : TabX ex S w' b bq bw DQ DW T :=
  ⟨(k b h.sb).trans h.blk, h.mq.same (k bq h.sq), h.mw.same (k bw h.sw), h.y, h.hasq, fun n l hn hx => (h.valq n l hn hx).same fun g hg => k g (h.rows n l g hn hg).1, h.apart, h.rows, h.hasw, h.valw, h.sb, h.sq, h.sw, h.ne, fun x hx => Nat.lt_of_lt_of_le (h.lt x hx) hs, h.keys⟩

theorem TabX.below (h : TabX ex S w b bq bw DQ DW T) (k : Below w.heap.size w w') : TabX ex S w' b bq bw DQ DW T := h.keep k.size fun g hg => k.block g (h.lt g hg)

theorem IsTab.below (h : IsTab S w b T) (k : Below w.heap.size w w') : IsTab S w' b T := by
  obtain ⟨bq, bw, DQ, DW, h⟩ := h
  exact ⟨bq, bw, DQ, DW, h.below k⟩

theorem IsTab.keep (h : IsTab S w b T) (hs : w.heap.size ≤ w'.heap.size) (k : ∀ g, S g → w'.heap[g]? = w.heap[g]?) : IsTab S w' b T := by
  obtain ⟨bq, bw, DQ, DW, h⟩ := h
  exact ⟨bq, bw, DQ, DW, h.keep hs k⟩

theorem TabX.c0 (h : TabX ex S w b bq bw DQ DW T) : w.cell? ⟨b, 0, none⟩ = some (.map (some bq)) := by simp [World.cell?, h.blk]
theorem TabX.c1 (h : TabX ex S w b bq bw DQ DW T) : w.cell? ⟨b, 1, none⟩ = some (.map (some bw)) := by simp [World.cell?, h.blk]

/-- The queue of one lock was changed in its row. -/
theorem TabX.touch (h : TabX noEx S w b bq bw DQ DW T) {n : NameV} {l : Lit} (hn : NKey n l) (hg : w.grownBy w' (getV DQ l nilS).ownBlock) : TabX (fun x => x = n) S w' b bq bw DQ DW T := by
  have off : ∀ k, k < w.heap.size → (getV DQ l nilS).ownBlock ≠ some k → w'.heap[k]? = w.heap[k]? := fun k hk hne => hg.block k hk fun e => hne e.symm
  have rb : ∀ k, (getV DQ l nilS).ownBlock = some k → k ≠ b ∧ k ≠ bq ∧ k ≠ bw := fun k hk => (h.rows n l k hn hk).2
  refine ⟨(off b (h.lt b h.sb) fun e => (rb b e).1 rfl).trans h.blk, h.mq.same (off bq (h.lt bq h.sq) fun e => (rb bq e).2.1 rfl), h.mw.same (off bw (h.lt bw h.sw) fun e => (rb bw e).2.2 rfl), h.y, h.hasq, ?_, h.apart, h.rows, h.hasw, h.valw, h.sb, h.sq, h.sw, h.ne, fun x hx => Nat.lt_of_lt_of_le (h.lt x hx) hg.size, h.keys⟩
  intro n' l' hn' hx
  exact (h.valq n' l' hn' (fun x => x)).same fun g hgg => off g (h.lt g (h.rows n' l' g hn' hgg).1) fun e => h.apart n n' l l' g hn hn' (fun e => hx e.symm) e hgg
end

/-- A table with another queue for a lock. -/
def Tab.setQ (T : Tab) (n : NameV) (L : List Pl) : Tab :=
  { T with Q := fun x => if x = n then L else T.Q x, z := T.z + (if L.isEmpty then 0 else 1) - (if (T.Q n).isEmpty then 0 else 1) }

/-- A table in which one waits. -/
def Tab.setW (T : Tab) (t : Int) (n : NameV) : Tab := { T with W := fun x => if x = t then some n else T.W x, y := T.y + 1 }

/-- A table in which one waits no more. -/
def Tab.delW (T : Tab) (t : Int) : Tab := { T with W := fun x => if x = t then none else T.W x }

def emptyT : Tab := ⟨fun _ => [], fun _ => none, 0, 0⟩

set_option maxHeartbeats 800000 in
set_option maxRecDepth 60000 in
theorem new_any (w : World) : Calls Tryd.prog 5 #[] w fun e w' => ∃ b S, e = .returned (.pointer (some ⟨b, 0, none⟩)) ∧ IsTab S w' b emptyT ∧ Below w.heap.size w w' ∧ ∀ k, S k → w.heap.size ≤ k := by
  go_enter Tryd.func5, Tryd.ntmps5
  have h1 := MapV.made 33 w
  have h2 := MapV.made 3 (w.alloc (.map #[] 0))
  have hmm := @run_makeMap Tryd.prog
  go_wp2
  go_ret
  refine ⟨w.heap.size + 1 + 1, fun k => w.heap.size ≤ k ∧ k < w.heap.size + 3, rfl, ⟨w.heap.size, w.heap.size + 1, .map [], .map [], ?_⟩, ?_, fun k hk => hk.1⟩
  · generalize hc : (Obj.cells #[.map (some w.heap.size), .map (some (w.heap.size + 1))] 55) = oc at *
    have b1 : Below (w.alloc (.map #[] 0)).heap.size (w.alloc (.map #[] 0)) (((w.alloc (.map #[] 0)).alloc (.map #[] 0)).alloc oc) := ((Below.refl _ _).alloc (Nat.le_refl _) _).alloc (by simp) _
    have b2 : Below ((w.alloc (.map #[] 0)).alloc (.map #[] 0)).heap.size ((w.alloc (.map #[] 0)).alloc (.map #[] 0)) (((w.alloc (.map #[] 0)).alloc (.map #[] 0)).alloc oc) := (Below.refl _ _).alloc (Nat.le_refl _) _
    have s1 : (w.alloc (.map #[] 0)).heap.size = w.heap.size + 1 := by simp
    have m1 := h1.same (b1.block w.heap.size (by simp))
    have m2 := h2.same (b2.block (w.alloc (.map #[] 0)).heap.size (by simp))
    rw [s1] at m2
    have hb : (((w.alloc (.map #[] 0)).alloc (.map #[] 0)).alloc oc).heap[w.heap.size + 1 + 1]? = some oc := by
      have := heap_alloc_new ((w.alloc (.map #[] 0)).alloc (.map #[] 0)) oc
      simpa using this
    refine ⟨hb.trans (by rw [← hc]), m1, m2, Nat.le_refl _, fun n l hn => rfl, fun n l hn _ => QAt.nil _, fun n n' l l' g _ _ _ e => (by cases e), fun n l g _ e => (by cases e), fun t ht => rfl, fun t n ht e => (by cases e), ⟨by omega, by omega⟩, ⟨by omega, by omega⟩, ⟨by omega, by omega⟩, ⟨by omega, by omega, by omega⟩, fun k hk => ?_, fun l hl => (by cases hl)⟩
    simp
    omega
  · exact ((((Below.refl _ _).alloc (Nat.le_refl _) _).alloc (by simp) _).alloc (by simp; omega) _)

theorem zeroName (w : World) : (zeroValue 33).run Tryd.prog w = .ok zeroN w := by kernel_rfl
theorem zeroQueue (w : World) : (zeroValue 61).run Tryd.prog w = .ok nilS w := by kernel_rfl

/-- What a transaction waits for, as a value. -/
def forV (T : Tab) (t : Int) : Value := match T.W t with | some n => nval n | none => zeroN

theorem TabX.look {ex : NameV → Prop} {S : Nat → Prop} {w : World} {b bq bw : Nat} {DQ DW : DataW Value} {T : Tab} (h : TabX ex S w b bq bw DQ DW T) {t : Int} (ht : i64R t) :
    (Instr.lookup 53 (.map (some bw)) (.int .i64 t) true).run Tryd.prog w = .ok (.tuple #[forV T t, .bool (T.W t).isSome]) w := by
  rw [h.mw.lookOk txKeyed Tryd.underlying53 (zeroName w) (tkey_key ht.1 ht.2), h.hasw t ht]
  congr 3
  unfold forV
  cases e : T.W t with
  | none => rw [getV_none (by rw [h.hasw t ht, e]; rfl)]
  | some n => rw [h.valw t n ht e]

def forN (T : Tab) (t : Int) : NameV := (T.W t).getD (0, 0, 0, 0)
theorem forV_eq (T : Tab) (t : Int) : forV T t = nval (forN T t) := by
  unfold forV forN
  cases T.W t with
  | none => rfl
  | some n => rfl

set_option maxHeartbeats 1600000 in
set_option maxRecDepth 60000 in
theorem for_any {S : Nat → Prop} {w : World} {b : Nat} {T : Tab} (h : IsTab S w b T) (t : Int) (ht : i64R t) :
    Calls Tryd.prog 22 #[.pointer (some ⟨b, 0, none⟩), .int .i64 t] w fun e w' => e = .returned (.tuple #[nval (forN T t), .bool (T.W t).isSome]) ∧ Below w.heap.size w w' := by
  obtain ⟨bq, bw, DQ, DW, h⟩ := h
  have h1 := h.below ((Below.refl _ _).alloc (Nat.le_refl w.heap.size) (.cells #[.int .i64 0, .int .i64 0, .int .u32 0, .int .i64 0] 33))
  have hl := h1.look ht
  have c1 := h1.c1
  rw [forV_eq] at hl
  have hlt := h.lt b h.sb
  clear h h1
  generalize forN T t = nm at *
  obtain ⟨n0, n1, n2, n3⟩ := nm
  unfold nval at *
  simp only at *
  generalize (T.W t).isSome = R at *
  go_enter Tryd.func22, Tryd.ntmps22
  go_wp2
  refine bodyPost_ret (v := .tuple #[.agg #[.int .i64 n0, .int .i64 n1, .int .u32 n2, .int .i64 n3], .bool R]) (by simp [results, Tryd.results22, go_sem]) rfl ?_
  exact ⟨rfl, ((Below.refl _ _).alloc (Nat.le_refl _) _).alloc (by simp) _⟩

theorem for_nil (w : World) (t : Int) : Calls Tryd.prog 22 #[.pointer none, .int .i64 t] w fun e w' => e = .returned (.tuple #[zeroN, .bool false]) ∧ Below w.heap.size w w' := by
  unfold zeroN
  go_enter Tryd.func22, Tryd.ntmps22
  go_wp2
  refine bodyPost_ret (v := .tuple #[.agg #[.int .i64 0, .int .i64 0, .int .u32 0, .int .i64 0], .bool false]) (by simp [results, Tryd.results22, go_sem]) rfl ?_
  exact ⟨rfl, (Below.refl _ _).alloc (Nat.le_refl _) _⟩

set_option maxHeartbeats 1600000 in
set_option maxRecDepth 60000 in
theorem waits_of {w : World} {p : Value} {t : Int} {nm : NameV} {R : Bool} (hf : Calls Tryd.prog 22 #[p, .int .i64 t] w fun e w' => e = .returned (.tuple #[nval nm, .bool R]) ∧ Below w.heap.size w w') :
    Calls Tryd.prog 11 #[p, .int .i64 t] w fun e w' => e = .returned (.bool R) ∧ Below w.heap.size w w' := by
  obtain ⟨n0, n1, n2, n3⟩ := nm
  unfold nval at hf
  simp only at hf
  go_enter Tryd.func11, Tryd.ntmps11
  go_wp2_with fail
  refine hf.mono ?_
  rintro e w1 ⟨rfl, b1⟩
  go_wp2
  go_ret
  exact ⟨rfl, b1.alloc b1.size _⟩

theorem waits_any {S : Nat → Prop} {w : World} {b : Nat} {T : Tab} (h : IsTab S w b T) (t : Int) (ht : i64R t) :
    Calls Tryd.prog 11 #[.pointer (some ⟨b, 0, none⟩), .int .i64 t] w fun e w' => e = .returned (.bool (T.W t).isSome) ∧ Below w.heap.size w w' := waits_of (for_any h t ht)

theorem waits_nil (w : World) (t : Int) : Calls Tryd.prog 11 #[.pointer none, .int .i64 t] w fun e w' => e = .returned (.bool false) ∧ Below w.heap.size w w' := waits_of (nm := (0, 0, 0, 0)) (for_nil w t)

/-- A lock's queue is laid. -/
theorem TabX.laid {S : Nat → Prop} {w W W' : World} {b bq bw : Nat} {DQ DW : DataW Value} {T : Tab} {n : NameV} {l : Lit} {v : Value} {L : List Pl} (hn : NKey n l) (h : TabX (fun x => x = n) S w b bq bw DQ DW T)
    (hv : QAt w v L) (hloc : v.ownBlock = (getV DQ l nilS).ownBlock ∨ ∃ z, v.ownBlock = some z ∧ ¬ S z) (hk : Below w.heap.size w W) (ht : W.mapTurned W' bq) {D' : DataW Value} {z' : Nat} (hm : MapV 33 W' bq z' D')
    (h1 : ∀ n' l', NKey n' l' → n' ≠ n → Maps.has D' l' = Maps.has DQ l' ∧ getV D' l' nilS = getV DQ l' nilS) (h2 : Maps.has D' l = !L.isEmpty) (h3 : QAt w (getV D' l nilS) L) (h4 : getV D' l nilS = v ∨ (getV D' l nilS).ownBlock = none) (h5 : z' = (T.setQ n L).z) (h6 : ∀ l', Maps.has D' l' = true → l' = l ∨ Maps.has DQ l' = true) :
    TabX noEx (fun k => S k ∨ v.ownBlock = some k) W' b bq bw D' DW (T.setQ n L) := by
  have hW := h.below hk
  have hg := ht.grown
  have off : ∀ k, k < w.heap.size → k ≠ bq → W'.heap[k]? = w.heap[k]? := fun k hk' hne => (hg.block k (Nat.lt_of_lt_of_le hk' hk.size) (by simp; exact hne)).trans (hk.block k hk')
  have hsz : w.heap.size ≤ W'.heap.size := Nat.le_trans hk.size hg.size
  have vb : ∀ g, v.ownBlock = some g → g ≠ b ∧ g ≠ bq ∧ g ≠ bw := fun g hg => by
    rcases hloc with e | ⟨z, e, hz⟩
    · exact (h.rows n l g hn (e ▸ hg)).2
    · obtain rfl : z = g := Option.some.inj (e.symm.trans hg)
      exact ⟨fun e => hz (e ▸ h.sb), fun e => hz (e ▸ h.sq), fun e => hz (e ▸ h.sw)⟩
  have row : ∀ n' l', NKey n' l' → n' ≠ n → QAt w (getV D' l' nilS) (T.Q n') := fun n' l' hn' hne => by rw [(h1 n' l' hn' hne).2]; exact h.valq n' l' hn' hne
  have rn : ∀ g, (getV D' l nilS).ownBlock = some g → v.ownBlock = some g := fun g hg => by
    rcases h4 with e | e
    · rw [e] at hg; exact hg
    · rw [e] at hg; cases hg
  have key : ∀ l', NKey n l' → l' = l := fun l' h' => nkey_eq h' hn
  have va : ∀ n' l' g, NKey n' l' → n' ≠ n → v.ownBlock = some g → (getV DQ l' nilS).ownBlock ≠ some g := fun n' l' g hn' hne hg e => by
    rcases hloc with e1 | ⟨z, e1, hz⟩
    · exact h.apart n n' l l' g hn hn' (fun x => hne x.symm) (e1 ▸ hg) e
    · obtain rfl : z = g := Option.some.inj (e1.symm.trans hg)
      exact hz (h.rows n' l' z hn' e).1
  refine ⟨(off b (h.lt b h.sb) h.ne.1).trans h.blk, h5 ▸ hm, h.mw.same (off bw (h.lt bw h.sw) fun e => h.ne.2.2 e.symm), h.y, ?_, ?_, ?_, ?_, h.hasw, h.valw, .inl h.sb, .inl h.sq, .inl h.sw, h.ne, ?_, fun l' hl' => ?_⟩
  · intro n' l' hn'
    by_cases e : n' = n
    · subst e
      rw [key l' hn', h2]
      simp [Tab.setQ]
    · rw [(h1 n' l' hn' e).1, h.hasq n' l' hn']
      simp [Tab.setQ, e]
  · intro n' l' hn' _
    by_cases e : n' = n
    · subst e
      rw [key l' hn']
      have : (T.setQ n' L).Q n' = L := by simp [Tab.setQ]
      rw [this]
      exact h3.same fun g hg => off g (hv.lt g (rn g hg)) (vb g (rn g hg)).2.1
    · have : (T.setQ n L).Q n' = T.Q n' := by simp [Tab.setQ, e]
      rw [this]
      have hr := row n' l' hn' e
      exact hr.same fun g hg => off g (hr.lt g hg) (by rw [(h1 n' l' hn' e).2] at hg; exact (h.rows n' l' g hn' hg).2.2.1)
  · intro n1 n2 l1 l2 g k1 k2 hne e1 e2
    by_cases c1 : n1 = n
    · subst c1
      rw [key l1 k1] at e1
      have c2 : n2 ≠ n1 := fun e => hne e.symm
      rw [(h1 n2 l2 k2 c2).2] at e2
      exact va n2 l2 g k2 c2 (rn g e1) e2
    · rw [(h1 n1 l1 k1 c1).2] at e1
      by_cases c2 : n2 = n
      · subst c2
        rw [key l2 k2] at e2
        exact va n1 l1 g k1 c1 (rn g e2) e1
      · rw [(h1 n2 l2 k2 c2).2] at e2
        exact h.apart n1 n2 l1 l2 g k1 k2 hne e1 e2
  · intro n' l' g hn' hg
    by_cases e : n' = n
    · subst e
      rw [key l' hn'] at hg
      exact ⟨.inr (rn g hg), vb g (rn g hg)⟩
    · rw [(h1 n' l' hn' e).2] at hg
      have := h.rows n' l' g hn' hg
      exact ⟨.inl this.1, this.2⟩
  · intro k hk'
    rcases hk' with hk' | hk'
    · exact Nat.lt_of_lt_of_le (h.lt k hk') hsz
    · exact Nat.lt_of_lt_of_le (hv.lt k hk') hsz
  · rcases h6 l' hl' with e | e
    · exact ⟨n, by rw [e]; exact hn⟩
    · exact h.keys l' e

theorem setQ_z_pos {T : Tab} {n : NameV} {L : List Pl} {z' : Nat} (h : L.isEmpty = false) (hz : z' = if (!(T.Q n).isEmpty) = true then T.z else T.z + 1) : z' = (T.setQ n L).z := by
  unfold Tab.setQ
  simp only [h]
  cases hq : (T.Q n).isEmpty
  · rw [hq] at hz; simpa using hz
  · rw [hq] at hz; simpa using hz

theorem setQ_z_nil {T : Tab} {n : NameV} {L : List Pl} {z' : Nat} (h : L.isEmpty = true) (hz : z' + (if (!(T.Q n).isEmpty) = true then 1 else 0) = T.z) : z' = (T.setQ n L).z := by
  unfold Tab.setQ
  simp only [h]
  cases hq : (T.Q n).isEmpty
  · rw [hq] at hz; simp at hz ⊢; omega
  · rw [hq] at hz; simp at hz ⊢; omega

set_option maxHeartbeats 1600000 in
set_option maxRecDepth 60000 in
theorem lay_any {S : Nat → Prop} {w : World} {b bq bw : Nat} {DQ DW : DataW Value} {T : Tab} {n : NameV} {l : Lit} {v : Value} {L : List Pl} (hn : NKey n l) (h : TabX (fun x => x = n) S w b bq bw DQ DW T)
    (hv : QAt w v L) (hloc : v.ownBlock = (getV DQ l nilS).ownBlock ∨ ∃ z, v.ownBlock = some z ∧ ¬ S z) (hz : T.z ≤ 1000000) (hL : L.length ≤ 1000000) :
    Calls Tryd.prog 19 #[.pointer (some ⟨b, 0, none⟩), nval n, v] w fun e w' => e = .returned (.tuple #[]) ∧ IsTab (fun k => S k ∨ v.ownBlock = some k) w' b (T.setQ n L) ∧ KeptL (fun k => k = bq) w w' := by
  have hval : ∃ va c, v = .slice va L.length c := by
    rcases hv.open with ⟨rfl, rfl⟩ | ⟨g, cap, rfl, _⟩
    · exact ⟨_, _, rfl⟩
    · exact ⟨_, _, rfl⟩
  have hne := fun n' l' (hn' : NKey n' l') (e : n' ≠ n) => nkey_ne hn' hn e
  have hlit := nkey_lit hn
  have hkk : keyOf Tryd.prog 33 (nval n) = some l := hn
  obtain ⟨n0, n1, n2, n3⟩ := n
  unfold nval at hkk ⊢
  simp only at hkk ⊢
  have hb1 : Below w.heap.size w (w.alloc (.cells #[.int .i64 n0, .int .i64 n1, .int .u32 n2, .int .i64 n3] 33)).drew := ((Below.refl _ _).alloc (Nat.le_refl _) _).drew
  have h1 := h.below hb1
  have hlt := h.lt b h.sb
  have c0 := h1.c0
  cases hE : L.isEmpty with
  | true =>
    obtain ⟨u, hu⟩ := del_ex 33 52 61 bq (.agg #[.int .i64 n0, .int .i64 n1, .int .u32 n2, .int .i64 n3]) 0
    obtain ⟨hr, hm, ht⟩ := hu _ _ _ _ h1.mq nameKeyed Tryd.underlying52 hkk
    have HF : Hid (IsTab (fun k => S k ∨ v.ownBlock = some k) (u (w.alloc (.cells #[.int .i64 n0, .int .i64 n1, .int .u32 n2, .int .i64 n3] 33)).drew) b (T.setQ (n0, n1, n2, n3) L) ∧ KeptL (fun k => k = bq) w (u (w.alloc (.cells #[.int .i64 n0, .int .i64 n1, .int .u32 n2, .int .i64 n3] 33)).drew)) := by
      have hsz := Maps.size_del (k := l) (h1.mq.tidy nameKeyed)
      rw [h1.mq.2, h.hasq _ _ hn] at hsz
      have hnil : L = [] := List.isEmpty_iff.1 hE
      refine ⟨⟨bq, bw, _, DW, TabX.laid hn h hv hloc hb1 ht hm (fun n' l' hn' e => ⟨Maps.has_del_other (hne n' l' hn' e), getV_del_other (hne n' l' hn' e) _⟩) (by rw [Maps.has_del_same, hE]; rfl) (by rw [getV_del_same, hnil]; exact QAt.nil w) (.inr (by rw [getV_del_same]; rfl)) (setQ_z_nil hE hsz) (fun l' hl' => by
        by_cases e : l' = l
        · exact .inl e
        · rw [Maps.has_del_other e] at hl'; exact .inr hl')⟩, (KeptL.of_below hb1).trans (KeptL.of_grown ht.grown fun k e => by cases e; rfl)⟩
    have h0 : L.length = 0 := by rw [List.isEmpty_iff.1 hE]; rfl
    obtain ⟨va, c, rfl⟩ := hval
    rw [h0] at HF ⊢
    clear h h1 hv hm ht hu hE hloc
    go_enter Tryd.func19, Tryd.ntmps19
    go_wp2
    go_region
    go_wp2
    refine bodyPost_ret (results_none rfl _ _ _) rfl ?_
    exact ⟨rfl, HF.out⟩
  | false =>
    obtain ⟨u, hu⟩ := put_ex 33 52 61 bq (.agg #[.int .i64 n0, .int .i64 n1, .int .u32 n2, .int .i64 n3]) v
    obtain ⟨hr, hm, ht⟩ := hu _ _ _ _ h1.mq nameKeyed Tryd.underlying52 hz hkk
    have HF : Hid (IsTab (fun k => S k ∨ v.ownBlock = some k) (u (w.alloc (.cells #[.int .i64 n0, .int .i64 n1, .int .u32 n2, .int .i64 n3] 33)).drew) b (T.setQ (n0, n1, n2, n3) L) ∧ KeptL (fun k => k = bq) w (u (w.alloc (.cells #[.int .i64 n0, .int .i64 n1, .int .u32 n2, .int .i64 n3] 33)).drew)) := by
      have hsz := Maps.size_put (k := l) (h1.mq.tidy nameKeyed) (.held v)
      rw [h1.mq.2, h.hasq _ _ hn] at hsz
      have hI := (h1.mq.tidy nameKeyed).isMap
      refine ⟨⟨bq, bw, _, DW, TabX.laid hn h hv hloc hb1 ht hm (fun n' l' hn' e => ⟨Maps.has_put_other (hne n' l' hn' e) _, getV_put_other (hne n' l' hn' e) _ _⟩) (by rw [Maps.has_put_same hI hlit, hE]; rfl) (by rw [getV_put_same hI hlit]; exact hv) (.inl (by rw [getV_put_same hI hlit])) (setQ_z_pos hE hsz) (fun l' hl' => by
        by_cases e : l' = l
        · exact .inl e
        · rw [Maps.has_put_other e] at hl'; exact .inr hl')⟩, (KeptL.of_below hb1).trans (KeptL.of_grown ht.grown fun k e => by cases e; rfl)⟩
    have h0 : ((L.length : Int) == 0) = false := by
      have : L.length ≠ 0 := fun e => by rw [List.eq_nil_of_length_eq_zero e] at hE; cases hE
      simpa using this
    obtain ⟨va, c, rfl⟩ := hval
    clear h h1 hv hm ht hu hE hloc
    generalize L.length = N at *
    go_enter Tryd.func19, Tryd.ntmps19
    go_wp2
    go_region
    go_end0
    exact ⟨rfl, HF.out⟩

end Go.Proofs.YthagomibjlcfmaaDoor
