/-
  A struct that is loaded or stored whole: one step, whatever its cells.
  girderlaw05.one and says, whatever the act; where WalPlays begins.
  A struct that is loaded whole in a quiet walk: one step, whatever its cells.
  A struct that is stored whole in a region that draws; one that is loaded under a guard.
  Where WalPlays stands.
-/
import Derived.Test.YthmhigjdjclckaaProg
import Derived.WalkKit
import Derived.WalkSpells
import Derived.Deep.WholeRow
import Derived.Laws.CopyOwn
import Derived.Test.YthmhigjdjclckaaWalPGC
import Derived.Test.YthmhigjdjclckaaWalPDC
import Derived.Test.YthmhigjdjclckaaBase10C
import Derived.Lib.QuietBelow
import Derived.BigQuiet
import Derived.OrdersHeld
namespace Go.Proofs.Ythmhigjdjclckaa
open Go.RowKit
set_option linter.unusedVariables false

section
variable {P : Program} {ops : Array Oper} {rest : List Oper} {o : Oper} {a : Act} {Q : Exit → Act → World → Prop} {W : World}

theorem wpList_loadRow (hgd : o.guard = none) (x : Operand) (t : TypeId) (ho : o.op = .load t x) (b : Nat) (hx : a.eval x = .pointer (some ⟨b, 0, none⟩)) (c : Array Value) (t' : TypeId) (fr : Nat × Nat) (hb : W.heap[b]? = some (.cells c t' fr))
    (d : TypeDesc) (hu : P.underlying t = some d) (hd : (match d with | .struct _ | .array _ _ => true | _ => false) = true) (hi : (P.info? t).map (·.size) = some c.size) (h : wpList P ops Q rest (a.put o.dst (.agg c)) W) : wpList P ops Q (o :: rest) a W := by
  refine wpList_plain hgd fun K hK => ?_
  have hr := run_loadVar_row (P := P) W b t' t c fr d hb hu hd hi
  unfold Oper.wp execOp
  simp only [ho, hx, Instr.loadAt, Instr.sureAddr, Sem.run_bind, Sem.run_pure, Result.andThen_ok, hr]
  exact hK _ _ h

theorem wpList_storeRow (hgd : o.guard = none) (x y : Operand) (t : TypeId) (ho : o.op = .store t x y) (hdst : o.dst = none) (b : Nat) (hx : a.eval x = .pointer (some ⟨b, 0, none⟩)) (c old : Array Value) (hy : a.eval y = .agg c) (t' : TypeId) (hb : W.heap[b]? = some (.cells old t' (0, 0)))
    (hi : (P.info? t).map (·.size) = some c.size) (ho' : old.size = c.size) (h1 : c.all (·.oneCell') = true) (h : wpList P ops Q rest a (W.setRow b c)) : wpList P ops Q (o :: rest) a W := by
  refine wpList_plain hgd fun K hK => ?_
  have hr := run_storeVar_row (P := P) W b t' t old c hb hi ho' h1
  unfold Oper.wp execOp
  simp only [ho, hx, hy, Instr.storeAt, Instr.sureAddr, Sem.run_bind, Sem.run_pure, Result.andThen_ok, hr]
  refine hK _ _ ?_
  rw [hdst]
  exact h

end

end Go.Proofs.Ythmhigjdjclckaa

namespace Go.Proofs.Ythmhigjdjclckaa
open Go.RowKit
set_option linter.unusedVariables false

section
variable {W : World} {p q : Nat} {S D : Nat → Prop} {l : LG} {d : DG} {rs : List ByteArray} {sure kept mark j : Nat} {ta : Option Addr}

theorem one_any (h : WpL W p q S D l d rs sure kept mark j) (hj : j ≤ 100) (hT : TextsAt W ta rs) (hO : TOff rs ta S D) (tc : Nat) (hc : rs.length ≤ tc) (kd N : Int) (s : ByteArray) (x : Nat) (f1 : Int) (f2 : Nat) (f3 f4 f5 : Int) (hs : s.size ≤ maxLen) (hx : x < 18446744073709551616) (hf2 : f2 < 18446744073709551616) :
    Calls Try.prog 8 #[.pointer (some ⟨p, 0, none⟩), .pointer (some ⟨q, 0, none⟩), .agg #[.slice ta rs.length tc, .int .i64 sure, .int .i64 kept, .int .u64 mark], .agg #[.int .i64 kd, .int .i64 N, .string s, .int .u64 x, .int .i64 f1, .int .u64 f2, .int .i64 f3, .int .i64 f4, .int .i64 f5]] W fun e w' => OneOut W p S D j e w' := by
  by_cases k0 : kd = 0
  · subst k0
    by_cases hr : s.size = 0 ∨ 8192 < s.size
    · exact one_append_no h hj hT hO tc hc N s x f1 f2 f3 f4 f5 hr hs
    · by_cases hm : s.size + 12 + kept + l.bytes.length ≤ 4194304
      · exact one_append_ok h hj hT hO tc hc N s x f1 f2 f3 f4 f5 (by omega) (by omega) hm
      · exact one_append_full h hj hT hO tc hc N s x f1 f2 f3 f4 f5 (by omega) (by omega) (by omega)
  by_cases k1 : kd = 1
  · subst k1
    by_cases hr : s.size = 0 ∨ 8192 < s.size
    · exact one_spend_no h hj hT hO tc hc N s x f1 f2 f3 f4 f5 hr hs
    · by_cases hm : s.size + 12 + l.bytes.length ≤ 4194304
      · exact one_spend_ok h hj hT hO tc hc N s x f1 f2 f3 f4 f5 (by omega) (by omega) hm
      · exact one_spend_full h hj hT hO tc hc N s x f1 f2 f3 f4 f5 (by omega) (by omega) (by omega)
  by_cases k2 : kd = 2
  · subst k2
    by_cases hN : N < 0
    · exact one_keep_arg h hj hT hO tc hc N s x f1 f2 f3 f4 f5 hN
    · by_cases hM : (4194304 : Int) - l.bytes.length - kept < N
      · exact one_keep_much h hj hT hO tc hc N s x f1 f2 f3 f4 f5 (by omega) hM
      · exact one_keep_ok h hj hT hO tc hc N s x f1 f2 f3 f4 f5 (by omega) (by omega)
  by_cases k3 : kd = 3
  · subst k3
    exact one_give h hj hT hO tc hc N s x f1 f2 f3 f4 f5
  by_cases k4 : kd = 4
  · subst k4
    by_cases hsu : sure = rs.length
    · exact one_flush_all h hj hT hO tc hc N s x f1 f2 f3 f4 f5 hsu
    · have hlt : sure < rs.length := by have := h.su; omega
      by_cases hp : x < placeOf rs sure
      · exact one_flush_none h hj hT hO tc hc N s x f1 f2 f3 f4 f5 hlt hp
      · exact one_flush_ok h hj hT hO tc hc N s x f1 f2 f3 f4 f5 hlt (by omega)
  by_cases k5 : kd = 5
  · subst k5
    by_cases hi : ∃ i, i < sure ∧ placeOf rs i = x
    · obtain ⟨i, h1, h2⟩ := hi
      exact one_master_ok h hj hT hO tc hc N s x f1 f2 f3 f4 f5 i h1 h2 hx
    · exact one_master_no h hj hT hO tc hc N s x f1 f2 f3 f4 f5 (fun i h1 h2 => hi ⟨i, h1, h2⟩)
  by_cases k6 : kd = 6
  · subst k6
    exact one_open h hj hT hO tc hc N s x f1 f2 f3 f4 f5
  exact one_crash h hj hT hO tc hc N s x f1 f2 f3 f4 f5 kd k0 k1 k2 k3 k4 k5 k6 hf2

theorem says_any (h : WpL W p q S D l d rs sure kept mark j) (hj : j ≤ 100) (hT : TextsAt W ta rs) (tc : Nat) (kd N : Int) (s : ByteArray) (x : Nat) (f1 f2 f3 f4 f5 : Int) :
    Calls Try.prog 9 #[.pointer (some ⟨q, 0, none⟩), .agg #[.slice ta rs.length tc, .int .i64 sure, .int .i64 kept, .int .u64 mark], .agg #[.int .i64 kd, .int .i64 N, .string s, .int .u64 x, .int .i64 f1, .int .u64 f2, .int .i64 f3, .int .i64 f4, .int .i64 f5]] W fun e w' => e = .returned (.bool true) ∧ Below W.heap.size W w' := by
  have hcn := h.cnt
  cases hrs : rs with
  | nil =>
    have hs0 : sure = 0 := by have := h.su; rw [hrs] at this; simpa using this
    have hm0 : mark = 0 := by
      rcases h.mkp with e | ⟨i, hi, _⟩
      · exact e
      · omega
    have hf0 : l.flushed = 0 := by have := h.flu; rw [hs0] at this; change l.flushed + 1 = 1 at this; omega
    have hR := h.recs
    rw [hrs] at hR
    subst hs0 hm0
    exact says_none W q S D l d ta tc kept kd N s x f1 f2 f3 f4 f5 h.log hR (by rw [h.dp]; exact h.disk) h.dead hf0 h.keeps
  | cons r t =>
    rw [← hrs]
    have hl : 0 < rs.length := by rw [hrs]; simp
    exact says_more W q S D l d rs ta tc sure kept mark kd N s x f1 f2 f3 f4 f5 h.log h.recs (by rw [h.dp]; exact h.disk) h.dead hT h.sized (by omega) h.blen h.flu h.su h.keeps h.mi (rs.length - 1) (by omega)

/-- A log that was opened on a new disk. -/
theorem wp_start {w2 : World} {p q : Nat} {S D : Nat → Prop} (hd : IsDisk w2 p D (newD 8)) (hl : IsLog w2 q S (openL p (newD 8))) (ho : ∀ k, S k → ¬ D k) : WpL w2 p q S D (openL p (newD 8)) (newD 8) [] 0 0 0 0 := by
  have hlog : (newD 8).log = allL ([] : List ByteArray) ++ [] := rfl
  have h0 : frameN ⟨(newD 8).log.toArray⟩ (allL ([] : List ByteArray)).length = 0 := frameN_end (by rw [bytes_size]; show (0 : Nat) < 0 + 4; omega)
  obtain ⟨o1, o2, o3, o4⟩ := open_recs p (newD 8) [] [] hlog (fun r hr => by cases hr) h0
  exact ⟨hl, hd, rfl, ho, o2, o1, rfl, rfl, by rw [o2]; show (0 : Nat) + 0 ≤ _; omega, (fun r hr => by cases hr), Nat.le_refl _, Nat.le_refl _, o3, rfl, rfl, rfl, Nat.le_refl _, ⟨fun y hy => (by cases hy), fun q => zerosS_size, by show (0 : Nat) + 0 ≤ _; omega, by show (0 : Nat) ≤ _; omega, Nat.le_refl _⟩, rfl, rfl, Nat.le_refl _, rfl, rfl, .inl rfl, by omega⟩

end

end Go.Proofs.Ythmhigjdjclckaa

namespace Go.Proofs.Ythmhigjdjclckaa
open Go.RowKit Go.Sort
set_option linter.unusedVariables false

section
variable {P : Program} {ops : Array Oper} {rest : List Oper} {o : Oper} {a : Act}

/-- A struct that is loaded whole, in a quiet walk whose callees lay memory. -/
theorem wpQuiet_loadRow {V : World} {Q' : Act → Prop} (hgd : o.guard = none) (x : Operand) (t : TypeId) (ho : o.op = .load t x) (b : Nat) (hx : a.eval x = .pointer (some ⟨b, 0, none⟩)) (c : Array Value) (t' : TypeId) (fr : Nat × Nat) (hb : V.heap[b]? = some (.cells c t' fr))
    (d : TypeDesc) (hu : P.underlying t = some d) (hd : (match d with | .struct _ | .array _ _ => true | _ => false) = true) (hi : (P.info? t).map (·.size) = some c.size)
    (h : wpQuiet P ops (fun w' => ∃ p : Regrown, w' = grow (redrawn V p.d) p.os) Q' rest (a.put o.dst (.agg c))) : wpQuiet P ops (fun w' => ∃ p : Regrown, w' = grow (redrawn V p.d) p.os) Q' (o :: rest) a := by
  refine BigFrame.wpQuiet_want (by simp [Region.wanted, hgd]) (fun K hK => ?_)
  refine ⟨.agg c, fun w hw => ?_, hK _ h⟩
  obtain ⟨p, rfl⟩ := hw
  have hlt : b < V.heap.size := (Array.getElem?_eq_some_iff.1 hb).1
  have hb' : (grow (redrawn V p.d) p.os).heap[b]? = some (.cells c t' fr) := ((below_regrown V p.d p.os).block b hlt).trans hb
  have hr := run_loadVar_row (P := P) (grow (redrawn V p.d) p.os) b t' t c fr d hb' hu hd hi
  unfold Oper.quietAt execOp
  simp only [ho, hx, Instr.loadAt, Instr.sureAddr, Sem.run_bind, Sem.run_pure, Result.andThen_ok, hr]
  exact ⟨rfl, rfl⟩

end

end Go.Proofs.Ythmhigjdjclckaa

namespace Go.Proofs.Ythmhigjdjclckaa
open Go.RowKit Go.Sort
set_option linter.unusedVariables false

section
variable {P : Program} {ops : Array Oper} {rest : List Oper} {o : Oper} {a : Act} {Q : Exit → Act → World → Prop} {W : World}

theorem step_storeRow {K : Act → World → Prop} {E : Prop} (hgd : o.guard = none) (x y : Operand) (t : TypeId) (ho : o.op = .store t x y) (hdst : o.dst = none) (b : Nat) (hx : a.eval x = .pointer (some ⟨b, 0, none⟩)) (c old : Array Value) (hy : a.eval y = .agg c) (t' : TypeId) (hb : W.heap[b]? = some (.cells old t' (0, 0)))
    (hi : (P.info? t).map (·.size) = some c.size) (ho' : old.size = c.size) (h1 : c.all (·.oneCell') = true) (h : K a (W.setRow b c)) : if Region.wanted o (yielded ops a.tmps) = true then Oper.wp P o a W K Q else E := by
  have hw : Region.wanted o (yielded ops a.tmps) = true := by simp [Region.wanted, hgd]
  rw [if_pos hw]
  have hr := run_storeVar_row (P := P) W b t' t old c hb hi ho' h1
  unfold Oper.wp execOp
  simp only [ho, hx, hy, Instr.storeAt, Instr.sureAddr, Sem.run_bind, Sem.run_pure, Result.andThen_ok, hr]
  unfold Oper.upon
  simpa only [hdst, Act.put] using h

theorem wpList_loadRowG (hw : Region.wanted o (yielded ops a.tmps) = true) (x : Operand) (t : TypeId) (ho : o.op = .load t x) (b : Nat) (hx : a.eval x = .pointer (some ⟨b, 0, none⟩)) (c : Array Value) (t' : TypeId) (fr : Nat × Nat) (hb : W.heap[b]? = some (.cells c t' fr))
    (d : TypeDesc) (hu : P.underlying t = some d) (hd : (match d with | .struct _ | .array _ _ => true | _ => false) = true) (hi : (P.info? t).map (·.size) = some c.size) (h : wpList P ops Q rest (a.put o.dst (.agg c)) W) : wpList P ops Q (o :: rest) a W := by
  refine wpList_step fun K hK => ?_
  rw [if_pos hw]
  have hr := run_loadVar_row (P := P) W b t' t c fr d hb hu hd hi
  unfold Oper.wp execOp
  simp only [ho, hx, Instr.loadAt, Instr.sureAddr, Sem.run_bind, Sem.run_pure, Result.andThen_ok, hr]
  exact hK _ _ h

/-- A struct loaded whole yields the same in each world that has it there. -/
theorem yields_loadRow {S : World → Prop} (hw : Region.wanted o (yielded ops a.tmps) = true) (x : Operand) (t : TypeId) (ho : o.op = .load t x) (b : Nat) (hx : a.eval x = .pointer (some ⟨b, 0, none⟩)) (c : Array Value) (t' : TypeId) (fr : Nat × Nat) (hb : ∀ w, S w → w.heap[b]? = some (.cells c t' fr))
    (d : TypeDesc) (hu : P.underlying t = some d) (hd : (match d with | .struct _ | .array _ _ => true | _ => false) = true) (hi : (P.info? t).map (·.size) = some c.size) : YieldsIf P ops S o (.agg c) a := by
  refine Or.inl ⟨hw, fun w hS => ?_⟩
  have hr := run_loadVar_row (P := P) w b t' t c fr d (hb w hS) hu hd hi
  unfold execOp
  simp only [ho, hx, Instr.loadAt, Instr.sureAddr, Sem.run_bind, Sem.run_pure, Result.andThen_ok, hr]

end

end Go.Proofs.Ythmhigjdjclckaa

namespace Go.Proofs.Ythmhigjdjclckaa
open Go.RowKit
set_option linter.unusedVariables false
set_option linter.unusedSimpArgs false

/-- An act that came in. -/
structure AcAt (w : World) (b o : Nat) (A : AcV) : Prop where
  c0 : w.cell? ⟨b, o, none⟩ = some (.int .i64 A.kind)
  c1 : w.cell? ⟨b, o + 1, none⟩ = some (.int .i64 A.n)
  c2 : w.cell? ⟨b, o + 2, none⟩ = some (.string A.s)
  c3 : w.cell? ⟨b, o + 3, none⟩ = some (.int .u64 A.x)
  c4 : w.cell? ⟨b, o + 4, none⟩ = some (.int .i64 A.f1)
  c5 : w.cell? ⟨b, o + 5, none⟩ = some (.int .u64 A.f2)
  c6 : w.cell? ⟨b, o + 6, none⟩ = some (.int .i64 A.f3)
  c7 : w.cell? ⟨b, o + 7, none⟩ = some (.int .i64 A.f4)
  c8 : w.cell? ⟨b, o + 8, none⟩ = some (.int .i64 A.f5)

/-- Within its bounds. -/
structure AcOk (A : AcV) : Prop where
  s : A.s.size ≤ maxLen
  x : A.x < 18446744073709551616
  f2 : A.f2 < 18446744073709551616

def ArgAcs (w : World) (a : Option Addr) (n : Nat) (A : Nat → AcV) : Prop :=
  n = 0 ∨ ∃ b o, a = some ⟨b, o, none⟩ ∧ b < w.heap.size ∧ ∀ i, i < n → AcAt w b (o + i * 9) (A i) ∧ AcOk (A i)

theorem AcAt.same {w w' : World} {b o : Nat} {A : AcV} (h : AcAt w b o A) (e : w'.heap[b]? = w.heap[b]?) : AcAt w' b o A :=
  ⟨(World.cell?_of_block (w := w) (a := ⟨b, o, none⟩) e).trans h.c0, (World.cell?_of_block (w := w) (a := ⟨b, o + 1, none⟩) e).trans h.c1, (World.cell?_of_block (w := w) (a := ⟨b, o + 2, none⟩) e).trans h.c2, (World.cell?_of_block (w := w) (a := ⟨b, o + 3, none⟩) e).trans h.c3, (World.cell?_of_block (w := w) (a := ⟨b, o + 4, none⟩) e).trans h.c4, (World.cell?_of_block (w := w) (a := ⟨b, o + 5, none⟩) e).trans h.c5, (World.cell?_of_block (w := w) (a := ⟨b, o + 6, none⟩) e).trans h.c6, (World.cell?_of_block (w := w) (a := ⟨b, o + 7, none⟩) e).trans h.c7, (World.cell?_of_block (w := w) (a := ⟨b, o + 8, none⟩) e).trans h.c8⟩

/-- Where WalPlays stands; its model in block mb. -/
structure PwAt (w wr : World) (mb p q : Nat) (S D : Nat → Prop) (l : LG) (d : DG) (rs : List ByteArray) (sure kept mark k : Nat) (ta : Option Addr) (tc : Nat) : Prop where
  bel : Below w.heap.size w wr
  wp : WpL wr p q S D l d rs sure kept mark k
  tx : TextsAt wr ta rs
  off : TOff rs ta S D
  hc : rs.length ≤ tc
  new : ∀ i, S i ∨ D i → w.heap.size ≤ i
  mbk : Blk wr mb (mCells ta rs.length tc sure kept mark) 34
  mbn : w.heap.size ≤ mb
  mbo : ∀ i, S i ∨ D i → i ≠ mb
  mbt : rs ≠ [] → ∀ x, ta = some x → x.block ≠ mb

section
variable {w wr wx : World} {mb p q : Nat} {S D : Nat → Prop} {l : LG} {d : DG} {rs : List ByteArray} {sure kept mark k : Nat} {ta : Option Addr} {tc : Nat}

theorem PwAt.below (h : PwAt w wr mb p q S D l d rs sure kept mark k ta tc) (b : Below wr.heap.size wr wx) : PwAt w wx mb p q S D l d rs sure kept mark k ta tc :=
  ⟨below_chain h.bel b, h.wp.below b, h.tx.below b, h.off, h.hc, h.new, h.mbk.same (b.block _ h.mbk.lt), h.mbn, h.mbo, h.mbt⟩

/-- Behind one, with the model laid. -/
theorem PwAt.one (h : PwAt w wr mb p q S D l d rs sure kept mark k ta tc) {q' tc' sure' kept' mark' : Nat} {ta' : Option Addr} {rs' : List ByteArray} {S' D' : Nat → Prop} {l' : LG} {d' : DG} (hw : WpL wx p q' S' D' l' d' rs' sure' kept' mark' (k + 1)) (hT : TextsAt wx ta' rs') (hO : TOff rs' ta' S' D') (hc : rs'.length ≤ tc') (hm : Moves (fun i => S i ∨ D i) (fun i => S' i ∨ D' i) wr wx)
    (hmt : rs' ≠ [] → ∀ x, ta' = some x → x.block ≠ mb) :
    PwAt w (wx.setRow mb (mCells ta' rs'.length tc' sure' kept' mark')) mb p q' S' D' l' d' rs' sure' kept' mark' (k + 1) ta' tc' := by
  have hmb := h.mbk.same (hm.1.block mb h.mbk.lt (fun y => h.mbo mb y rfl))
  have hbel : Below w.heap.size w wx := ⟨hm.1.os.trans h.bel.os, hm.1.tape.trans h.bel.tape, hm.1.output.trans h.bel.output, Nat.le_trans h.bel.size hm.1.size, fun i hi => (hm.1.block i (by have := h.bel.size; omega) (fun y => by have := h.new i y; omega)).trans (h.bel.block i hi)⟩
  have hmo : ∀ i, S' i ∨ D' i → i ≠ mb := fun i y e => by
    rcases hm.2 i y with z | z
    · exact h.mbo i z e
    · have := h.mbk.lt; omega
  have hz : wx.heap.size ≤ (wx.setRow mb (mCells ta' rs'.length tc' sure' kept' mark')).heap.size := by simp [World.setRow]
  refine ⟨below_setRow hbel h.mbn _, ?_, ?_, hO, hc, fun i y => ?_, setRow_heap _ _ _ _ _ _ hmb, h.mbn, hmo, hmt⟩
  · exact ⟨hw.log.same (fun i hi => setRow_other _ _ _ _ (hmo i (.inl hi))) hz, hw.disk.same (fun i hi => setRow_other _ _ _ _ (hmo i (.inr hi))) hz, hw.dp, hw.off, hw.bytes, hw.recs, hw.half, hw.keeps, hw.fits, hw.sz, hw.cnt, hw.su, hw.fl, hw.dlog, hw.dead, hw.plan, hw.calls, hw.ok, hw.loose, hw.sl, hw.nS, hw.mrk, hw.sm, hw.mkp, hw.mz⟩
  · by_cases e : rs' = []
    · subst e; exact .inl rfl
    · exact hT.same (fun x hx hl => setRow_other _ _ _ _ (hmt e x hx)) hz
  · rcases hm.2 i y with z | z
    · exact h.new i z
    · have := h.bel.size; omega

end

end Go.Proofs.Ythmhigjdjclckaa
