/-
  The walk of girderlaw03.PageBack.
-/
import Derived.Test.YtkknglcckjhngaaBase5C
import Derived.Test.YtkknglcckjhngaaRegionLastC
import Derived.Deep.AppendLies
import Derived.Deep.CutRange
import Derived.Deep.RegionHeld3
import Derived.Lib.QuietBelow
namespace Go.Proofs.Ytkknglcckjhngaa
open Go.RowKit Go.Sort
set_option linter.unusedVariables false

/-- Element i of a row of changes at block b, offset o. -/
structure OpAt (w : World) (b o : Nat) (i : Nat) (v : OpV) : Prop where
  c0 : w.cell? ⟨b, o + i * 4, none⟩ = some (.int .i64 v.kind)
  c1 : w.cell? ⟨b, o + i * 4 + 1, none⟩ = some (.int .i64 v.at')
  c2 : w.cell? ⟨b, o + i * 4 + 2, none⟩ = some (.string v.S)
  c3 : w.cell? ⟨b, o + i * 4 + 3, none⟩ = some (.string v.old)
  ok : v.Ok

/-- A slice of changes: nil, or a row in block b. -/
def IsOps (w : World) (a : Option Addr) (len : Nat) (O : Nat → OpV) : Prop :=
  len ≤ maxLen ∧ (len = 0 ∨ ∃ b o, a = some ⟨b, o, none⟩ ∧ b < w.heap.size ∧ ∀ i, i < len → OpAt w b o i (O i))

theorem fits_ok {q : SheetV} {w : World} {a : Option Addr} (f : q.Fits) (h : StrsAt w a q.slots) : q.Ok w a := by
  have hf := f.fits
  refine ⟨f.num, f.lsn, ⟨by have := f.kind0; omega, by have := f.kind1; omega⟩, by have := f.head; omega, by have := f.len; omega, fun s hs => ?_, h⟩
  obtain ⟨j, hj, rfl⟩ := List.mem_iff_getElem.1 hs
  have := slotSum_at q.slots j hj
  omega

theorem StrsFrom.up {B : Nat} {w w' : World} {a : Option Addr} {L : List ByteArray} (h : StrsFrom B w a L) (k : Below w.heap.size w w') : StrsFrom B w' a L := by
  rcases h with h | ⟨bs, o, e, h1, hb, hc⟩
  · exact .inl h
  · exact .inr ⟨bs, o, e, h1, Nat.lt_of_lt_of_le hb k.size, fun i hi => (k.cell (p := ⟨bs, o + i, none⟩) hb).trans (hc i hi)⟩

theorem infoSh : (Try.prog.info? 29).map (fun i => (i.zero, i.size, i.bytes)) = some (some (.agg #[.int .u32 0, .int .u64 0, .int .i64 0, .string ⟨#[]⟩, .slice none 0 0]), 5, 64) := by kernel_rfl
theorem infoOp : (Try.prog.info? 41).map (fun i => (i.zero, i.size, i.bytes)) = some (some (.agg #[.int .i64 0, .int .i64 0, .string ⟨#[]⟩, .string ⟨#[]⟩]), 4, 48) := by kernel_rfl

theorem info_split {t : TypeId} {z : Value} {s b : Nat} (h : (Try.prog.info? t).map (fun i => (i.zero, i.size, i.bytes)) = some (some z, s, b)) : ∃ i, Try.prog.info? t = some i ∧ i.zero = some z ∧ i.size = s ∧ i.bytes = b := by
  cases e : Try.prog.info? t with
  | none => rw [e] at h; cases h
  | some i =>
    rw [e] at h
    simp only [Option.map_some, Option.some.injEq, Prod.mk.injEq] at h
    exact ⟨i, rfl, h.1, h.2.1, h.2.2⟩

/-- The cells of a block that was laid, two blocks on. -/
theorem news_at {w : World} {B : Nat} {cs : Array Value} {t : TypeId} (hb : w.heap[B]? = some (.cells cs t (0, 0))) : ∀ j u, cs.toList[j]? = some u → w.cell? ((⟨B, 0, none⟩ : Addr).add j) = some u := World.news_of_block hb

theorem drew_heap (w : World) : w.drew.heap = w.heap := rfl

theorem BackAt.other {w wr wa w7 : World} {Q : Nat} {p q : SheetV} {a aq : Option Addr} {c cq : Nat} {H : List StepV} {vw vd : Value} (h : BackAt w wr Q p q a aq c cq H vw vd) (k1 : Below wr.heap.size wr wa) (g1 : wa.grownBy w7 vw.ownBlock) :
    w7.ownsRow 0 41 4 vd H.length (H.flatMap ocells) := by
  refine owns_same h.done fun g' hg' => ?_
  have hl := (h.done.lt g' hg').2
  have s1 := k1.size
  exact (g1.block g' (by omega) (fun e => (owns_apart h.was h.done (by decide) g' e.symm) hg')).trans (k1.block g' hl)

theorem owns_form {w : World} {e : TypeId} {z n : Nat} {v : Value} {xs : List Value} (h : w.ownsRow 0 e z v n xs) : ∃ a c, v = .slice a n c ∧ (n = 0 ∨ ∃ g, a = some ⟨g, 0, none⟩ ∧ g < w.heap.size ∧ ∀ k u, xs[k]? = some u → w.cell? ⟨g, k, none⟩ = some u) := by
  rcases h.2 with ⟨rfl, h1⟩ | ⟨g, cap, cur, rfl, h0, hb, hr⟩
  · subst h1
    exact ⟨none, 0, rfl, .inl rfl⟩
  · exact ⟨_, _, rfl, .inr ⟨g, rfl, (h.lt g rfl).2, fun k u hk => owns_cells h k u hk⟩⟩

theorem BackAt.setq {w wr : World} {Q : Nat} {p q q' : SheetV} {a aq aq' : Option Addr} {c cq cq' : Nat} {H : List StepV} {vw vd : Value} (h : BackAt w wr Q p q a aq c cq H vw vd) (hs : StrsX wr vw vd Q aq' q'.slots) :
    BackAt w (store5 wr Q (.int .u32 q'.num) (.int .u64 q'.lsn) (.int .i64 q'.kind) (.string q'.head) (.slice aq' q'.slots.length cq')) Q p q' a aq' c cq' H vw vd := by
  have off : ∀ g, g ≠ Q → (store5 wr Q (.int .u32 q'.num) (.int .u64 q'.lsn) (.int .i64 q'.kind) (.string q'.head) (.slice aq' q'.slots.length cq')).heap[g]? = wr.heap[g]? := fun g n3 => by
    unfold store5
    have hk : ∀ (u : World) (i : Nat) (v : Value), (u.setCell ⟨Q, i, none⟩ v).heap[g]? = u.heap[g]? := fun u i v => Below.heap_setCell _ _ _ _ n3
    rw [hk, hk, hk, hk, hk]
  have kx : KeptX wr (store5 wr Q (.int .u32 q'.num) (.int .u64 q'.lsn) (.int .i64 q'.kind) (.string q'.head) (.slice aq' q'.slots.length cq')) vw vd Q := ⟨by unfold store5; simp, fun k _ _ _ n3 => off k n3⟩
  exact ⟨below_set5 h.bel (by have := h.Q1; omega) _ _ _ _ _, h.page.set5_other (by have := h.Q1; omega) _ _ _ _ _, h.cur.set5 _ _ _ _ _, h.Q1, by unfold store5; simpa using h.Q2, owns_same h.was fun g hg => off g (h.wOff g hg).2, owns_same h.done fun g hg => off g (h.dOff g hg).2, h.wOff, h.dOff,
    hs.kept kx (fun _ _ x => x) (fun _ _ x => x), fun x hx => (h.olds x hx).kept kx (fun _ _ x => x) (fun _ _ x => x)⟩

/-- The error of Apply, of a change other than OpFormat. -/
def apE (q : SheetV) (o : OpV) : Int := if chkB o = true then doE q o else 33

theorem apply_all {w : World} (q : SheetV) (aq : Option Addr) (cq : Nat) (o : OpV) (lsn : Nat) (hq : q.Ok w aq) (f : q.Fits) (ho : o.Ok) (h1 : o.kind ≠ 1) :
    Calls Try.prog 12 #[q.val aq cq, o.val, .int .u64 lsn] w fun e w' => ∃ (r : SheetV) (ar : Option Addr) (cr : Nat), e = .returned (.tuple #[r.val ar cr, .int .i64 (apE q o)]) ∧ Below w.heap.size w w' ∧
      (apE q o = 0 → r = { doQ q o with lsn := lsn } ∧ StrsFrom w.heap.size w' ar r.slots ∧ chkB o = true) := by
  by_cases hc : chkB o = true
  · have he : apE q o = doE q o := by unfold apE; rw [if_pos hc]
    refine (apply_of (c := cq) lsn hq f ho hc (does f ho hc h1)).mono ?_
    rintro e w' ⟨X, rfl, b, hy, hn⟩
    rw [he]
    by_cases hE : doE q o = 0
    · obtain ⟨a', c', rfl, hs⟩ := hy hE
      exact ⟨_, a', c', rfl, b, fun _ => ⟨rfl, hs, hc⟩⟩
    · rw [hn hE]
      exact ⟨sheet0, none, 0, rfl, b, fun h => absurd h hE⟩
  · have hc' : chkB o = false := by simpa using hc
    have he : apE q o = 33 := by unfold apE; rw [if_neg hc]
    refine (apply_bad (c := cq) lsn hq ho hc').mono ?_
    rintro e w' ⟨rfl, b⟩
    rw [he]
    exact ⟨sheet0, none, 0, rfl, b, fun h => absurd h (by decide)⟩

theorem sameB_of {p q : SheetV} (h : SameS p q) : sameB p q = true := by unfold sameB; exact decide_eq_true h

theorem SameS.trans {p q r : SheetV} (h : SameS p q) (k : SameS q r) : SameS p r := ⟨h.1.trans k.1, h.2.1.trans k.2.1, h.2.2.1.trans k.2.2.1, h.2.2.2.trans k.2.2.2⟩

theorem Chain.same {H : List StepV} {p q r : SheetV} (h : Chain H p q) (k : SameS r q) : Chain H p r := by
  induction H generalizing p with
  | nil => exact k.trans h
  | cons x H ih => exact ⟨h.1, h.2.1, ih h.2.2⟩

theorem back_step {q : SheetV} {h : StepV} (hg : h.Good) (hs : SameS q (doQ h.s h.o)) (lsn : Nat) (hl : lsn < 18446744073709551616) :
    apE q (invO h.o) = 0 ∧ SameS { doQ q (invO h.o) with lsn := lsn } h.s ∧ ({ doQ q (invO h.o) with lsn := lsn } : SheetV).Fits ∧ (invO h.o).Ok ∧ (invO h.o).kind ≠ 1 := by
  obtain ⟨f0, ok, hc, hk, he⟩ := hg
  obtain ⟨d1, d2, d3⟩ := do_back f0 hc hk he
  obtain ⟨i1, i2⟩ := chk_inv hc hk
  have e := hs.eq
  have e1 : doE q (invO h.o) = 0 := by rw [e, doE_lsn]; exact d2
  have e2 : doQ q (invO h.o) = { h.s with lsn := q.lsn } := by rw [e, doQ_lsn, d3]
  refine ⟨by unfold apE; rw [if_pos i1]; exact e1, ?_, ?_, inv_ok ok, i2⟩
  · rw [e2]; exact ⟨rfl, rfl, rfl, rfl⟩
  · rw [e2]; exact Fits.lsn f0 lsn hl

theorem flat_get (f : StepV → List Value) (z : Nat) (hz : ∀ x, (f x).length = z) : ∀ (H : List StepV) (m i : Nat) (hm : m < H.length) (hi : i < z), (H.flatMap f)[m * z + i]? = (f H[m])[i]?
  | [], m, i, hm, hi => by simp at hm
  | x :: H, 0, i, hm, hi => by
    rw [List.flatMap_cons, Nat.zero_mul, Nat.zero_add, List.getElem?_append_left (by rw [hz]; exact hi)]
    rfl
  | x :: H, m + 1, i, hm, hi => by
    rw [List.flatMap_cons, List.getElem?_append_right (by rw [hz]; have : (m + 1) * z = m * z + z := Nat.succ_mul m z; omega), hz]
    have e : (m + 1) * z + i - z = m * z + i := by have : (m + 1) * z = m * z + z := Nat.succ_mul m z; omega
    rw [e]
    exact flat_get f z hz H m i (by simpa using hm) hi



end Go.Proofs.Ytkknglcckjhngaa
