/-
  The walk of girderlaw03.PageBack.
-/
import Derived.Test.YtpggeejolajmgaaBackMem
import Derived.Test.YtpggeejolajmgaaRegionLast
import Derived.Deep.AppendLies
import Derived.Deep.CutRange
import Derived.Deep.RegionHeld3
import Derived.Lib.QuietBelow
namespace Go.Proofs.Ytpggeejolajmgaa
open Go.RowKit Go.Sort
set_option linter.unusedVariables false

/-- Element i of a row of changes at block b, offset o. -/
structure OpAt (w : World) (b o : Nat) (i : Nat) (v : OpV) : Prop where
  c0 : w.cell? ⟨b, o + i * 4, none⟩ = some (.int .i64 v.kind)
  c1 : w.cell? ⟨b, o + i * 4 + 1, none⟩ = some (.int .i64 v.at')
  c2 : w.cell? ⟨b, o + i * 4 + 2, none⟩ = some (.string v.S)
  c3 : w.cell? ⟨b, o + i * 4 + 3, none⟩ = some (.string v.old)
  ok : v.Ok

/-- A slice of changes: nil, or a row in block b. -/
def IsOps (w : World) (a : Option Addr) (len : Nat) (O : Nat → OpV) : Prop :=
  len ≤ maxLen ∧ (len = 0 ∨ ∃ b o, a = some ⟨b, o, none⟩ ∧ b < w.heap.size ∧ ∀ i, i < len → OpAt w b o i (O i))

theorem fits_ok {q : SheetV} {w : World} {a : Option Addr} (f : q.Fits) (h : StrsAt w a q.slots) : q.Ok w a := by
  have hf := f.fits
  refine ⟨f.num, f.lsn, ⟨by have := f.kind0; omega, by have := f.kind1; omega⟩, by have := f.head; omega, by have := f.len; omega, fun s hs => ?_, h⟩
  obtain ⟨j, hj, rfl⟩ := List.mem_iff_getElem.1 hs
  have := slotSum_at q.slots j hj
  omega

theorem StrsFrom.up {B : Nat} {w w' : World} {a : Option Addr} {L : List ByteArray} (h : StrsFrom B w a L) (k : Below w.heap.size w w') : StrsFrom B w' a L := by
  rcases h with h | ⟨bs, o, e, h1, hb, hc⟩
  · exact .inl h
  · exact .inr ⟨bs, o, e, h1, Nat.lt_of_lt_of_le hb k.size, fun i hi => (k.cell (p := ⟨bs, o + i, none⟩) hb).trans (hc i hi)⟩

theorem infoSh : (Try.prog.info? 28).map (fun i => (i.zero, i.size, i.bytes)) = some (some (.agg #[.int .u32 0, .int .u64 0, .int .i64 0, .string ⟨#[]⟩, .slice none 0 0]), 5, 64) := by kernel_rfl
theorem infoOp : (Try.prog.info? 37).map (fun i => (i.zero, i.size, i.bytes)) = some (some (.agg #[.int .i64 0, .int .i64 0, .string ⟨#[]⟩, .string ⟨#[]⟩]), 4, 48) := by kernel_rfl

theorem info_split {t : TypeId} {z : Value} {s b : Nat} (h : (Try.prog.info? t).map (fun i => (i.zero, i.size, i.bytes)) = some (some z, s, b)) : ∃ i, Try.prog.info? t = some i ∧ i.zero = some z ∧ i.size = s ∧ i.bytes = b := by
  cases e : Try.prog.info? t with
  | none => rw [e] at h; cases h
  | some i =>
    rw [e] at h
    simp only [Option.map_some, Option.some.injEq, Prod.mk.injEq] at h
    exact ⟨i, rfl, h.1, h.2.1, h.2.2⟩

/-- The cells of a block that was laid, two blocks on. -/
theorem news_at {w : World} {B : Nat} {cs : Array Value} {t : TypeId} (hb : w.heap[B]? = some (.cells cs t (0, 0))) : ∀ j u, cs.toList[j]? = some u → w.cell? ((⟨B, 0, none⟩ : Addr).add j) = some u := World.news_of_block hb

theorem drew_heap (w : World) : w.drew.heap = w.heap := rfl

theorem BackAt.other {w wr wa w7 : World} {Q : Nat} {p q : SheetV} {a aq : Option Addr} {c cq : Nat} {H : List StepV} {vw vd : Value} (h : BackAt w wr Q p q a aq c cq H vw vd) (k1 : Below wr.heap.size wr wa) (g1 : wa.grownBy w7 vw.ownBlock) :
    w7.ownsRow 0 37 4 vd H.length (H.flatMap ocells) := by
  refine owns_same h.done fun g' hg' => ?_
  have hl := (h.done.lt g' hg').2
  have s1 := k1.size
  exact (g1.block g' (by omega) (fun e => (owns_apart h.was h.done (by decide) g' e.symm) hg')).trans (k1.block g' hl)

theorem owns_form {w : World} {e : TypeId} {z n : Nat} {v : Value} {xs : List Value} (h : w.ownsRow 0 e z v n xs) : ∃ a c, v = .slice a n c ∧ (n = 0 ∨ ∃ g, a = some ⟨g, 0, none⟩ ∧ g < w.heap.size ∧ ∀ k u, xs[k]? = some u → w.cell? ⟨g, k, none⟩ = some u) := by
  rcases h.2 with ⟨rfl, h1⟩ | ⟨g, cap, cur, rfl, h0, hb, hr⟩
  · subst h1
    exact ⟨none, 0, rfl, .inl rfl⟩
  · exact ⟨_, _, rfl, .inr ⟨g, rfl, (h.lt g rfl).2, fun k u hk => owns_cells h k u hk⟩⟩

theorem BackAt.setq {w wr : World} {Q : Nat} {p q q' : SheetV} {a aq aq' : Option Addr} {c cq cq' : Nat} {H : List StepV} {vw vd : Value} (h : BackAt w wr Q p q a aq c cq H vw vd) (hs : StrsX wr vw vd Q aq' q'.slots) :
    BackAt w (store5 wr Q (.int .u32 q'.num) (.int .u64 q'.lsn) (.int .i64 q'.kind) (.string q'.head) (.slice aq' q'.slots.length cq')) Q p q' a aq' c cq' H vw vd := by
  have off : ∀ g, g ≠ Q → (store5 wr Q (.int .u32 q'.num) (.int .u64 q'.lsn) (.int .i64 q'.kind) (.string q'.head) (.slice aq' q'.slots.length cq')).heap[g]? = wr.heap[g]? := fun g n3 => by
    unfold store5
    have hk : ∀ (u : World) (i : Nat) (v : Value), (u.setCell ⟨Q, i, none⟩ v).heap[g]? = u.heap[g]? := fun u i v => Below.heap_setCell _ _ _ _ n3
    rw [hk, hk, hk, hk, hk]
  have kx : KeptX wr (store5 wr Q (.int .u32 q'.num) (.int .u64 q'.lsn) (.int .i64 q'.kind) (.string q'.head) (.slice aq' q'.slots.length cq')) vw vd Q := ⟨by unfold store5; simp, fun k _ _ _ n3 => off k n3⟩
  exact ⟨below_set5 h.bel (by have := h.Q1; omega) _ _ _ _ _, h.page.set5_other (by have := h.Q1; omega) _ _ _ _ _, h.cur.set5 _ _ _ _ _, h.Q1, by unfold store5; simpa using h.Q2, owns_same h.was fun g hg => off g (h.wOff g hg).2, owns_same h.done fun g hg => off g (h.dOff g hg).2, h.wOff, h.dOff,
    hs.kept kx (fun _ _ x => x) (fun _ _ x => x), fun x hx => (h.olds x hx).kept kx (fun _ _ x => x) (fun _ _ x => x)⟩

/-- The error of Apply, of a change other than OpFormat. -/
def apE (q : SheetV) (o : OpV) : Int := if chkB o = true then doE q o else 33

theorem apply_all {w : World} (q : SheetV) (aq : Option Addr) (cq : Nat) (o : OpV) (lsn : Nat) (hq : q.Ok w aq) (f : q.Fits) (ho : o.Ok) (h1 : o.kind ≠ 1) :
    Calls Try.prog 14 #[q.val aq cq, o.val, .int .u64 lsn] w fun e w' => ∃ (r : SheetV) (ar : Option Addr) (cr : Nat), e = .returned (.tuple #[r.val ar cr, .int .i64 (apE q o)]) ∧ Below w.heap.size w w' ∧
      (apE q o = 0 → r = { doQ q o with lsn := lsn } ∧ StrsFrom w.heap.size w' ar r.slots ∧ chkB o = true) := by
  by_cases hc : chkB o = true
  · have he : apE q o = doE q o := by unfold apE; rw [if_pos hc]
    refine (apply_of (c := cq) lsn hq f ho hc (does f ho hc h1)).mono ?_
    rintro e w' ⟨X, rfl, b, hy, hn⟩
    rw [he]
    by_cases hE : doE q o = 0
    · obtain ⟨a', c', rfl, hs⟩ := hy hE
      exact ⟨_, a', c', rfl, b, fun _ => ⟨rfl, hs, hc⟩⟩
    · rw [hn hE]
      exact ⟨sheet0, none, 0, rfl, b, fun h => absurd h hE⟩
  · have hc' : chkB o = false := by simpa using hc
    have he : apE q o = 33 := by unfold apE; rw [if_neg hc]
    refine (apply_bad (c := cq) lsn hq ho hc').mono ?_
    rintro e w' ⟨rfl, b⟩
    rw [he]
    exact ⟨sheet0, none, 0, rfl, b, fun h => absurd h (by decide)⟩

theorem sameB_of {p q : SheetV} (h : SameS p q) : sameB p q = true := by unfold sameB; exact decide_eq_true h

theorem SameS.trans {p q r : SheetV} (h : SameS p q) (k : SameS q r) : SameS p r := ⟨h.1.trans k.1, h.2.1.trans k.2.1, h.2.2.1.trans k.2.2.1, h.2.2.2.trans k.2.2.2⟩

theorem Chain.same {H : List StepV} {p q r : SheetV} (h : Chain H p q) (k : SameS r q) : Chain H p r := by
  induction H generalizing p with
  | nil => exact k.trans h
  | cons x H ih => exact ⟨h.1, h.2.1, ih h.2.2⟩

theorem back_step {q : SheetV} {h : StepV} (hg : h.Good) (hs : SameS q (doQ h.s h.o)) (lsn : Nat) (hl : lsn < 18446744073709551616) :
    apE q (invO h.o) = 0 ∧ SameS { doQ q (invO h.o) with lsn := lsn } h.s ∧ ({ doQ q (invO h.o) with lsn := lsn } : SheetV).Fits ∧ (invO h.o).Ok ∧ (invO h.o).kind ≠ 1 := by
  obtain ⟨f0, ok, hc, hk, he⟩ := hg
  obtain ⟨d1, d2, d3⟩ := do_back f0 hc hk he
  obtain ⟨i1, i2⟩ := chk_inv hc hk
  have e := hs.eq
  have e1 : doE q (invO h.o) = 0 := by rw [e, doE_lsn]; exact d2
  have e2 : doQ q (invO h.o) = { h.s with lsn := q.lsn } := by rw [e, doQ_lsn, d3]
  refine ⟨by unfold apE; rw [if_pos i1]; exact e1, ?_, ?_, inv_ok ok, i2⟩
  · rw [e2]; exact ⟨rfl, rfl, rfl, rfl⟩
  · rw [e2]; exact Fits.lsn f0 lsn hl

theorem flat_get (f : StepV → List Value) (z : Nat) (hz : ∀ x, (f x).length = z) : ∀ (H : List StepV) (m i : Nat) (hm : m < H.length) (hi : i < z), (H.flatMap f)[m * z + i]? = (f H[m])[i]?
  | [], m, i, hm, hi => by simp at hm
  | x :: H, 0, i, hm, hi => by
    rw [List.flatMap_cons, Nat.zero_mul, Nat.zero_add, List.getElem?_append_left (by rw [hz]; exact hi)]
    rfl
  | x :: H, m + 1, i, hm, hi => by
    rw [List.flatMap_cons, List.getElem?_append_right (by rw [hz]; have : (m + 1) * z = m * z + z := Nat.succ_mul m z; omega), hz]
    have e : (m + 1) * z + i - z = m * z + i := by have : (m + 1) * z = m * z + z := Nat.succ_mul m z; omega
    rw [e]
    exact flat_get f z hz H m i (by simpa using hm) hi

set_option maxHeartbeats 3200000 in
set_option maxRecDepth 8000 in
theorem back_fits (p : SheetV) (a : Option Addr) (c : Nat) (la : Option Addr) (n lc : Nat) (O : Nat → OpV) (w : World) (hp : p.Ok w a) (hO : IsOps w la n O) (F : p.Fits) :
    Calls Try.prog 3 #[p.val a c, .slice la n lc] w fun e w' => e = .returned (.bool true) ∧ Below w.heap.size w w' := by
  have HF : Hid (p.Fits) := F
  have HO : Hid (IsOps w la n O) := hO
  have hn : n ≤ 9223372036854775807 := hO.1
  have HREF : Hid (∀ wx, Calls Try.prog 9 #[p.val a c] wx fun e w' => e = .returned (p.val a c) ∧ Below wx.heap.size wx w') := fun wx => ref_any p a c wx
  have hroom := roomF_eq hp F.len
  have HRM : Hid (∀ wx, Below w.heap.size w wx → Calls Try.prog 8 #[p.val a c] wx fun e w' => e = .returned (.int .i64 (485 - (p.head.size : Int) - (slotSum p.slots : Int))) ∧ Below wx.heap.size wx w') := fun wx hb => by
    have := (hp.below hb).refRoom c
    rw [hroom] at this
    exact this
  obtain ⟨W0, HW0⟩ : ∃ W0, Hid (W0 = w.alloc (.cells #[.int .u32 p.num, .int .u64 p.lsn, .int .i64 p.kind, .string p.head, .slice a p.slots.length c] 28)) := ⟨_, rfl⟩
  have p0 : RowV W0 w.heap.size 5 (five (.int .u32 p.num) (.int .u64 p.lsn) (.int .i64 p.kind) (.string p.head) (.slice a p.slots.length c)) := by rw [HW0.out]; exact RowV.five_new w _ _ _ _ _ _
  have bel0 : Below w.heap.size w W0 := by rw [HW0.out]; exact (Below.refl _ _).alloc (Nat.le_refl _) _
  have z0 : w.heap.size < W0.heap.size := by rw [HW0.out]; simp
  have f1 := F.fits
  have f2 := F.len
  have f3 := F.kind0
  have f4 := F.kind1
  have f5 := F.head
  simp only [SheetV.val] at HREF HRM ⊢
  have HM : Hid (StrsAt w a p.slots) := hp.mem
  have HPK : Hid (p.Ok w a) := hp
  clear hp hO hroom F
  go_enter Try.func3, Try.ntmps3
  go_wp2_with fail
  rw [← HW0.out]
  refine (HREF.out _).mono ?_
  rintro e w1 ⟨rfl, b1⟩
  have p1 := p0.below b1 z0
  have bel1 := below_chain bel0 b1
  have z1 := Nat.lt_of_lt_of_le z0 b1.size
  clear HW0 p0 b1 bel0 z0
  obtain ⟨x0, x1, x2, x3, x4⟩ := p1.cells5
  go_wp2_with fail
  refine (HRM.out _ bel1).mono ?_
  rintro e w2 ⟨rfl, b2⟩
  have p2 := p1.below b2 z1
  have bel2 := below_chain bel1 b2
  have z2 := Nat.lt_of_lt_of_le z1 b2.size
  clear p1 bel1 z1 b2 x0 x1 x2 x3 x4
  obtain ⟨x0, x1, x2, x3, x4⟩ := p2.cells5
  have g1 : ¬ (485 - (p.head.size : Int) - (slotSum p.slots : Int) < 0) := by omega
  have g2 : ¬ ((64 : Int) < (p.slots.length : Int)) := by omega
  have g3 : ¬ ((32 : Int) < (p.head.size : Int)) := by omega
  have g4 : ¬ (p.kind < 0) := by omega
  have g5 : ¬ (255 < p.kind) := by omega
  have d1 : decide (485 - (p.head.size : Int) - (slotSum p.slots : Int) < 0) = false := decide_eq_false g1
  have d2 : decide ((64 : Int) < (p.slots.length : Int)) = false := decide_eq_false g2
  have d3 : decide ((32 : Int) < (p.head.size : Int)) = false := decide_eq_false g3
  have d4 : decide (p.kind < 0) = false := decide_eq_false g4
  have d5 : decide (255 < p.kind) = false := decide_eq_false g5
  have HS0 : Hid _ := BackAt.start HM.out bel2 z2 p2
  clear p2 bel2
  go_wp2_with fail
  go_loopw [6, 7, 8] (fun d s i wr => ∃ (k : Nat) (H : List StepV) (q : SheetV) (aq : Option Addr) (cq : Nat), k ≤ n ∧ k ≤ 40 ∧ i = .int .i64 k ∧ Hid (BackAt w wr w2.heap.size p q a aq c cq H s d ∧ Chain H p q ∧ q.Fits ∧ H.length ≤ k)) (fun _ _ i _ => 40 - (intOf i).toNat)
  case atStart => exact ⟨0, [], p, a, c, by omega, by omega, rfl, HS0.out, SameS.refl p, HF.out, Nat.le_refl _⟩
  case round =>
    obtain ⟨k, H, q, aq, cq, hk1, hk2, rfl, HB⟩ := hrel
    have HU : Hid ((∀ g, u7.ownBlock = some g → g < wr.heap.size) ∧ (∀ g, u6.ownBlock = some g → g < wr.heap.size)) := ⟨fun g hg => (HB.out.1.was.lt g hg).2, fun g hg => (HB.out.1.done.lt g hg).2⟩
    clear HS0 x0 x1 x2 x3 x4
    by_cases hlt : k < n ∧ k < 40
    · obtain ⟨l1, l2⟩ := hlt
      have l1' : (k : Int) < n := by omega
      have l2' : (k : Int) < 40 := by omega
      obtain ⟨lb, lo, rfl, hlb, hcell⟩ : ∃ b o, la = some ⟨b, o, none⟩ ∧ b < w.heap.size ∧ ∀ i, i < n → OpAt w b o i (O i) := by
        rcases HO.out.2 with h | h
        · omega
        · exact h
      obtain ⟨a0, a1, a2, a3, ok⟩ := hcell k l1
      clear hcell
      have HOK : Hid (O k).Ok := ok
      generalize O k = o at *
      have HINV : Hid (∀ wx, Calls Try.prog 11 #[o.val] wx fun e w' => e = .returned (invO o).val ∧ Below wx.heap.size wx w') := fun wx => inverse_any o wx HOK.out
      have HRI : Hid (∀ wx, Calls Try.prog 13 #[o.val] wx fun e w' => e = .returned (invO o).val ∧ Below wx.heap.size wx w') := fun wx => rinverse_any o wx
      have HO1 : Hid (∀ wx, Calls Try.prog 12 #[o.val] wx fun e w' => e = .returned o.val ∧ Below wx.heap.size wx w') := fun wx => op_any o wx
      have HO2 : Hid (∀ wx, Calls Try.prog 12 #[(invO o).val] wx fun e w' => e = .returned (invO o).val ∧ Below wx.heap.size wx w') := fun wx => op_any (invO o) wx
      obtain ⟨x, HX⟩ : ∃ x, Hid (invO o = x) := ⟨_, rfl⟩
      rw [HX.out] at HINV HRI HO2
      simp only [OpV.val] at HINV HRI HO1 HO2
      have q0 := (HB.out.1.bel.cell (p := ⟨lb, lo + k * 4, none⟩) hlb).trans a0
      have q1 := (HB.out.1.bel.cell (p := ⟨lb, lo + k * 4 + 1, none⟩) hlb).trans a1
      have q2 := (HB.out.1.bel.cell (p := ⟨lb, lo + k * 4 + 2, none⟩) hlb).trans a2
      have q3 := (HB.out.1.bel.cell (p := ⟨lb, lo + k * 4 + 3, none⟩) hlb).trans a3
      go_wp2_with fail
      refine (HINV.out _).mono ?_
      rintro e w3 ⟨rfl, b3⟩
      go_wp2_with fail
      obtain ⟨W4, HW4⟩ : ∃ W4, Hid (W4 = w3.alloc (.cells #[.int .i64 x.kind, .int .i64 x.at', .string x.S, .string x.old] 37)) := ⟨_, rfl⟩
      have bA : Below wr.heap.size wr W4 := by rw [HW4.out]; exact b3.alloc b3.size _
      have HB4 : Hid (BackAt w W4 w2.heap.size p q a aq c cq H _ _ ∧ Chain H p q ∧ q.Fits ∧ H.length ≤ k) := ⟨HB.out.1.below bA, HB.out.2⟩
      have hx4 : RowV W4 w3.heap.size 4 (four (.int .i64 x.kind) (.int .i64 x.at') (.string x.S) (.string x.old)) := by rw [HW4.out]; exact RowV.four_new w3 _ _ _ _ _
      have zx : w3.heap.size < W4.heap.size := by rw [HW4.out]; simp
      have zr : wr.heap.size ≤ w3.heap.size := b3.size
      rw [← HW4.out]
      clear HW4 HB bA b3 q0 q1 q2 q3
      obtain ⟨y0, y1, y2, y3⟩ := hx4.cells4
      have bel4 := HB4.out.1.bel
      have q0 := (bel4.cell (p := ⟨lb, lo + k * 4, none⟩) hlb).trans a0
      have q1 := (bel4.cell (p := ⟨lb, lo + k * 4 + 1, none⟩) hlb).trans a1
      have q2 := (bel4.cell (p := ⟨lb, lo + k * 4 + 2, none⟩) hlb).trans a2
      have q3 := (bel4.cell (p := ⟨lb, lo + k * 4 + 3, none⟩) hlb).trans a3
      have gx0 := cell_regrown y0
      have gx1 := cell_regrown y1
      have gx2 := cell_regrown y2
      have gx3 := cell_regrown y3
      have gy0 := cell_regrown q0
      have gy1 := cell_regrown q1
      have gy2 := cell_regrown q2
      have gy3 := cell_regrown q3
      have cO2 : ∀ dd os, Calls Try.prog 12 #[.agg #[.int .i64 x.kind, .int .i64 x.at', .string x.S, .string x.old]] (grow (redrawn W4 dd) os) fun e w'' => e = .returned (.agg #[.int .i64 x.kind, .int .i64 x.at', .string x.S, .string x.old]) ∧ ∃ p : Regrown, w'' = grow (redrawn W4 p.d) p.os := fun dd os => Calls.regrown_of (HO2.out _)
      have cO1 : ∀ dd os, Calls Try.prog 12 #[.agg #[.int .i64 o.kind, .int .i64 o.at', .string o.S, .string o.old]] (grow (redrawn W4 dd) os) fun e w'' => e = .returned (.agg #[.int .i64 o.kind, .int .i64 o.at', .string o.S, .string o.old]) ∧ ∃ p : Regrown, w'' = grow (redrawn W4 p.d) p.os := fun dd os => Calls.regrown_of (HO1.out _)
      have cRI : ∀ dd os, Calls Try.prog 13 #[.agg #[.int .i64 o.kind, .int .i64 o.at', .string o.S, .string o.old]] (grow (redrawn W4 dd) os) fun e w'' => e = .returned (.agg #[.int .i64 x.kind, .int .i64 x.at', .string x.S, .string x.old]) ∧ ∃ p : Regrown, w'' = grow (redrawn W4 p.d) p.os := fun dd os => Calls.regrown_of (HRI.out _)
      refine wp_region_quiet_below mixed (by kernel_rfl) ?_
      iterate 2 (quiet_step (first | (go_at_call 12; exact cO2 _ _)))
      iterate 6 (quiet_step (first | (go_at_call 12; exact cO1 _ _) | (go_at_call 13; exact cRI _ _)))
      have hS1 := str_eq (rfl : x.S = x.S)
      have hS2 := str_eq (rfl : x.old = x.old)
      quiet_step (fail)
      refine wpQuiet_nil ?_
      intro _ hw'
      obtain ⟨⟨dq, osq⟩, hw''⟩ := hw'
      have b5 := below_regrown W4 dq osq
      rw [← hw''] at b5
      rename_i w5
      clear hw'' gx0 gx1 gx2 gx3 gy0 gy1 gy2 gy3 cO1 cO2 cRI hS1 hS2 q0 q1 q2 q3 y0 y1 y2 y3 bel4
      have HB5 : Hid (BackAt w w5 w2.heap.size p q a aq c cq H _ _ ∧ Chain H p q ∧ q.Fits ∧ H.length ≤ k) := ⟨HB4.out.1.below b5, HB4.out.2⟩
      have hx5 := hx4.below b5 zx
      have zx5 := Nat.lt_of_lt_of_le zx b5.size
      clear HB4 hx4 zx b5
      have bel5 := HB5.out.1.bel
      have q0 := (bel5.cell (p := ⟨lb, lo + k * 4, none⟩) hlb).trans a0
      have q1 := (bel5.cell (p := ⟨lb, lo + k * 4 + 1, none⟩) hlb).trans a1
      have q2 := (bel5.cell (p := ⟨lb, lo + k * 4 + 2, none⟩) hlb).trans a2
      have q3 := (bel5.cell (p := ⟨lb, lo + k * 4 + 3, none⟩) hlb).trans a3
      by_cases hk : o.kind = 1
      · have hkb : (o.kind == 1) = true := by rw [beq_iff_eq]; exact hk
        go_wp2_with fail
        go_roundw
        case rel => exact ⟨k + 1, H, q, aq, cq, by omega, by omega, by go_num, HB5.out.1, HB5.out.2.1, HB5.out.2.2.1, by have := HB5.out.2.2.2; omega⟩
        case measure => simp [intOf]; omega
      · have hkb : (o.kind == 1) = false := by rw [beq_eq_false_iff_ne]; exact hk
        have HQ5 : Hid (q.Ok w5 aq) := fits_ok HB5.out.2.2.1 HB5.out.1.strs.at
        have HAP : Hid (∀ wx, Below w5.heap.size w5 wx → Calls Try.prog 14 #[q.val aq cq, o.val, .int .u64 ((k : Int) + 1)] wx fun e w' => ∃ (r : SheetV) (ar : Option Addr) (cr : Nat), e = .returned (.tuple #[r.val ar cr, .int .i64 (apE q o)]) ∧ Below wx.heap.size wx w' ∧
            (apE q o = 0 → r = { doQ q o with lsn := k + 1 } ∧ StrsFrom wx.heap.size w' ar r.slots ∧ chkB o = true)) := fun wx hb => apply_all q aq cq o (k + 1) (HQ5.out.below hb) HB5.out.2.2.1 HOK.out hk
        obtain ⟨E, HE⟩ : ∃ E, Hid (apE q o = E) := ⟨_, rfl⟩
        rw [HE.out] at HAP
        simp only [SheetV.val, OpV.val] at HAP
        obtain ⟨z0, z1, z2, z3, z4⟩ := HB5.out.1.cur.cells5
        have hQ2 := HB5.out.1.Q2
        have hz5 := bel5.size
        have hlb5 : lb < w5.heap.size := by omega
        have hw64 : IntKind.u64.wrap ((k : Int) + 1) = (k : Int) + 1 := by rw [IntKind.wrap_u64]; omega
        have hi64 : IntKind.i64.wrap ((k : Int) + 1) = (k : Int) + 1 := wrap_small (by omega) (by omega)
        have hkeep : ∀ wx wy : World, Below wx.heap.size wx wy → w5.heap.size ≤ wx.heap.size →
            (wx.cell? ⟨w2.heap.size, 0, none⟩ = some (.int .u32 q.num) ∧ wx.cell? ⟨w2.heap.size, 1, none⟩ = some (.int .u64 q.lsn) ∧ wx.cell? ⟨w2.heap.size, 2, none⟩ = some (.int .i64 q.kind) ∧ wx.cell? ⟨w2.heap.size, 3, none⟩ = some (.string q.head) ∧ wx.cell? ⟨w2.heap.size, 4, none⟩ = some (.slice aq q.slots.length cq) ∧
              wx.cell? ⟨lb, lo + k * 4, none⟩ = some (.int .i64 o.kind) ∧ wx.cell? ⟨lb, lo + k * 4 + 1, none⟩ = some (.int .i64 o.at') ∧ wx.cell? ⟨lb, lo + k * 4 + 2, none⟩ = some (.string o.S) ∧ wx.cell? ⟨lb, lo + k * 4 + 3, none⟩ = some (.string o.old)) →
            (wy.cell? ⟨w2.heap.size, 0, none⟩ = some (.int .u32 q.num) ∧ wy.cell? ⟨w2.heap.size, 1, none⟩ = some (.int .u64 q.lsn) ∧ wy.cell? ⟨w2.heap.size, 2, none⟩ = some (.int .i64 q.kind) ∧ wy.cell? ⟨w2.heap.size, 3, none⟩ = some (.string q.head) ∧ wy.cell? ⟨w2.heap.size, 4, none⟩ = some (.slice aq q.slots.length cq) ∧
              wy.cell? ⟨lb, lo + k * 4, none⟩ = some (.int .i64 o.kind) ∧ wy.cell? ⟨lb, lo + k * 4 + 1, none⟩ = some (.int .i64 o.at') ∧ wy.cell? ⟨lb, lo + k * 4 + 2, none⟩ = some (.string o.S) ∧ wy.cell? ⟨lb, lo + k * 4 + 3, none⟩ = some (.string o.old)) := by
          rintro wx wy b hz ⟨h0, h1, h2, h3, h4, h5, h6, h7, h8⟩
          exact ⟨(b.cell (p := ⟨w2.heap.size, 0, none⟩) (by show w2.heap.size < _; omega)).trans h0, (b.cell (p := ⟨w2.heap.size, 1, none⟩) (by show w2.heap.size < _; omega)).trans h1, (b.cell (p := ⟨w2.heap.size, 2, none⟩) (by show w2.heap.size < _; omega)).trans h2, (b.cell (p := ⟨w2.heap.size, 3, none⟩) (by show w2.heap.size < _; omega)).trans h3, (b.cell (p := ⟨w2.heap.size, 4, none⟩) (by show w2.heap.size < _; omega)).trans h4,
            (b.cell (p := ⟨lb, lo + k * 4, none⟩) (by show lb < _; omega)).trans h5, (b.cell (p := ⟨lb, lo + k * 4 + 1, none⟩) (by show lb < _; omega)).trans h6, (b.cell (p := ⟨lb, lo + k * 4 + 2, none⟩) (by show lb < _; omega)).trans h7, (b.cell (p := ⟨lb, lo + k * 4 + 3, none⟩) (by show lb < _; omega)).trans h8⟩
        have ne1 : w2.heap.size ≠ w5.heap.size := by omega
        have ne2 : lb ≠ w5.heap.size := by omega
        go_upto_region 13 with fail
        go_cut [10, 11] from 75 to 86 (fun np ev wx => ∃ (N : Nat) (r : SheetV) (ar : Option Addr) (cr : Nat), np = .pointer (some ⟨N, 0, none⟩) ∧ ev = .int .i64 E ∧ Below w5.heap.size w5 wx ∧ RowV wx N 5 (five (.int .u32 r.num) (.int .u64 r.lsn) (.int .i64 r.kind) (.string r.head) (.slice ar r.slots.length cr)) ∧ w5.heap.size ≤ N ∧ N < wx.heap.size ∧ Hid (E = 0 → r = { doQ q o with lsn := k + 1 } ∧ StrsFrom w5.heap.size wx ar r.slots ∧ chkB o = true))
        case first =>
          go_region_held3 (fun w' => w'.cell? ⟨w2.heap.size, 0, none⟩ = some (.int .u32 q.num) ∧ w'.cell? ⟨w2.heap.size, 1, none⟩ = some (.int .u64 q.lsn) ∧ w'.cell? ⟨w2.heap.size, 2, none⟩ = some (.int .i64 q.kind) ∧ w'.cell? ⟨w2.heap.size, 3, none⟩ = some (.string q.head) ∧ w'.cell? ⟨w2.heap.size, 4, none⟩ = some (.slice aq q.slots.length cq) ∧
              w'.cell? ⟨lb, lo + k * 4, none⟩ = some (.int .i64 o.kind) ∧ w'.cell? ⟨lb, lo + k * 4 + 1, none⟩ = some (.int .i64 o.at') ∧ w'.cell? ⟨lb, lo + k * 4 + 2, none⟩ = some (.string o.S) ∧ w'.cell? ⟨lb, lo + k * 4 + 3, none⟩ = some (.string o.old))
            (first | go_keep | exact hkeep w5 _ c6 (Nat.le_refl _) ⟨z0, z1, z2, z3, z4, q0, q1, q2, q3⟩ | exact hkeep w5 _ (c6.alloc (by have := b6.size; simpa using this) _) (Nat.le_refl _) ⟨z0, z1, z2, z3, z4, q0, q1, q2, q3⟩ | exact hkeep w5 _ (below_set5 c6 (Nat.le_refl _) _ _ _ _ _) (Nat.le_refl _) ⟨z0, z1, z2, z3, z4, q0, q1, q2, q3⟩)
            (first
              | (go_at_call 14; refine (HAP.out (w5.drew.alloc (.cells #[.int .u32 0, .int .u64 0, .int .i64 0, .string ⟨#[]⟩, .slice none 0 0] 28)) (((Below.refl _ _).drew).alloc (Nat.le_refl _) _)).mono ?_; rintro e w6 ⟨r, ar, cr, rfl, b6, hr⟩; have c6 : Below w5.heap.size w5 w6 := (((Below.refl _ _).drew).alloc (Nat.le_refl _) _).trans (b6.mono (by simp)); have hn6 : RowV w6 w5.heap.size 5 (five (.int .u32 0) (.int .u64 0) (.int .i64 0) (.string ⟨#[]⟩) (.slice none 0 0)) := (RowV.five_new w5.drew (.int .u32 0) (.int .u64 0) (.int .i64 0) (.string ⟨#[]⟩) (.slice none 0 0) 28).below b6 (by simp); obtain ⟨n0, n1, n2, n3, n4⟩ := hn6.cells5; obtain ⟨m0, m1, m2, m3, m4⟩ := hn6.open5)
              | (go_at_call 14; refine (HAP.out w5.drew ((Below.refl _ _).drew)).mono ?_; rintro e w6 ⟨r, ar, cr, rfl, b6, hr⟩; have c6 : Below w5.heap.size w5 w6 := ((Below.refl _ _).drew).trans b6))
          · go_wp2_with fail
            go_meet
            case rel => exact ⟨w6.heap.size, r, ar, cr, rfl, rfl, c6.alloc (by have := b6.size; simpa using this) _, RowV.five_new w6 _ _ _ _ _ _, by have := b6.size; simpa using this, by simp, fun hE => ⟨(hr hE).1, (hr hE).2.1.up ((Below.refl _ _).alloc (Nat.le_refl _) _), (hr hE).2.2⟩⟩
          · go_wp2_with fail
            go_meet
            case rel => exact ⟨w5.heap.size, r, ar, cr, rfl, rfl, below_set5 c6 (Nat.le_refl _) _ _ _ _ _, hn6.set5 _ _ _ _ _, Nat.le_refl _, by have := b6.size; simp at this; simp; omega, fun hE => ⟨(hr hE).1, ((hr hE).2.1.store5 (b := w5.heap.size) (by simp) _ _ _ _ _).mono (by simp), (hr hE).2.2⟩⟩
        case rest =>
          obtain ⟨N, r, ar, cr, rfl, rfl, b6, hn6, hN1, hN2, HR⟩ := hcut
          have HB6 : Hid (BackAt w wc w2.heap.size p q a aq c cq H _ _ ∧ Chain H p q ∧ q.Fits ∧ H.length ≤ k) := ⟨HB5.out.1.below b6, HB5.out.2⟩
          have hx6 := hx5.below b6 zx5
          have zw := b6.size
          clear HB5 hx5 b6 HAP HQ5 hkeep q0 q1 q2 q3 z0 z1 z2 z3 z4
          by_cases hE : E = 0
          · subst hE
            obtain ⟨hr1, hr2, hr3⟩ := HR.out rfl
            have HG : Hid (StepV.Good ⟨q, aq, cq, o⟩) := ⟨HB6.out.2.2.1, HOK.out, hr3, hk, by have := HE.out; unfold apE at this; rw [if_pos hr3] at this; exact this⟩
            have HSX : Hid (StrsX wc u7 u6 w2.heap.size ar r.slots) := by
              rcases hr2 with h | ⟨bs, ob, e, h1, h2, h3⟩
              · exact .inl h
              · refine .inr ⟨bs, ob, e, h2, fun e => ?_, fun e => ?_, by omega, h3⟩
                · have := HU.out.1 _ e; omega
                · have := HU.out.2 _ e; omega
            have HNX : Hid (SameS r (doQ q o) ∧ r.Fits) := by
              have hd := (do_back HG.out.1 HG.out.2.2.1 HG.out.2.2.2.1 HG.out.2.2.2.2).1
              rw [hr1]
              exact ⟨⟨rfl, rfl, rfl, rfl⟩, Fits.lsn hd (k + 1) (by omega)⟩
            clear HR hr1 hr2 hr3
            obtain ⟨z0, z1, z2, z3, z4⟩ := HB6.out.1.cur.cells5
            obtain ⟨y0, y1, y2, y3⟩ := hx6.cells4
            obtain ⟨n0, n1, n2, n3, n4⟩ := hn6.cells5
            have hQ2 := HB6.out.1.Q2
            have hH : (fun wy : World => wy.heap[w2.heap.size]? = wc.heap[w2.heap.size]? ∧ wy.heap[w3.heap.size]? = wc.heap[w3.heap.size]? ∧ wy.heap[N]? = wc.heap[N]?) wc.drew := ⟨rfl, rfl, rfl⟩
            go_upto_region 15 with fail
            refine wp_region_noPanic ?_
            refine wp_region_popped (fun wy => wy.heap[w2.heap.size]? = wc.heap[w2.heap.size]? ∧ wy.heap[w3.heap.size]? = wc.heap[w3.heap.size]? ∧ wy.heap[N]? = wc.heap[N]?) { dst := none, op := Op.move (Operand.tmp 0), type := 0, pos := "", after := #[], guard := none } mixed rfl (by kernel_rfl) ?_
            simp only [List.pop_toArray, List.dropLast_cons_cons, List.dropLast_singleton, List.back?_toArray, List.getLast?_cons_cons, List.getLast?_singleton, Option.getD_some]
            have HN1 : Hid (∀ g, u7.ownBlock = some g → g < wr.heap.size ∧ g ≠ w2.heap.size) := fun g hg => ⟨HU.out.1 g hg, (HB6.out.1.wOff g hg).2⟩
            have HN2 : Hid (∀ g, u6.ownBlock = some g → g < wr.heap.size ∧ g ≠ w2.heap.size) := fun g hg => ⟨HU.out.2 g hg, (HB6.out.1.dOff g hg).2⟩
            have m1 : w2.heap.size < wc.heap.size := hQ2
            have m2 : w3.heap.size < wc.heap.size := by omega
            have HLEN : Hid (H.length ≤ 40) := by have := HB6.out.2.2.2; show H.length ≤ 40; omega
            have hoc : [Value.int .i64 x.kind, .int .i64 x.at', .string x.S, .string x.old] = ocells ⟨q, aq, cq, o⟩ := by unfold ocells; rw [HX.out]
            have HOC : Hid ([Value.int .i64 x.kind, .int .i64 x.at', .string x.S, .string x.old] = ocells ⟨q, aq, cq, o⟩) := hoc
            clear hoc
            obtain ⟨i1, hi1, hz10, hz11, hz12⟩ := info_split infoSh
            obtain ⟨i2, hi2, hz20, hz21, hz22⟩ := info_split infoOp
            have KA : Hid (Below wc.heap.size wc (wc.drew.alloc (.cells #[.int .u32 q.num, .int .u64 q.lsn, .int .i64 q.kind, .string q.head, .slice aq q.slots.length cq] 28))) := ((Below.refl _ _).drew).alloc (Nat.le_refl _) _
            have KB : Hid (Below wc.heap.size wc ((wc.drew.alloc (.cells #[.int .u32 q.num, .int .u64 q.lsn, .int .i64 q.kind, .string q.head, .slice aq q.slots.length cq] 28)).alloc (.cells #[.int .i64 x.kind, .int .i64 x.at', .string x.S, .string x.old] 37))) := (((Below.refl _ _).drew).alloc (Nat.le_refl _) _).alloc (by simp) _
            have KC : Hid (Below wc.heap.size wc ((wc.drew.alloc (.cells #[.int .i64 x.kind, .int .i64 x.at', .string x.S, .string x.old] 37)).alloc (.cells #[.int .u32 q.num, .int .u64 q.lsn, .int .i64 q.kind, .string q.head, .slice aq q.slots.length cq] 28))) := (((Below.refl _ _).drew).alloc (Nat.le_refl _) _).alloc (by simp) _
            have K2 : Hid (Below wc.heap.size wc (wc.drew.alloc (.cells #[.int .i64 x.kind, .int .i64 x.at', .string x.S, .string x.old] 37))) := ((Below.refl _ _).drew).alloc (Nat.le_refl _) _
            have HNA : Hid (∀ j u, (scells ⟨q, aq, cq, o⟩)[j]? = some u → (wc.drew.alloc (.cells #[.int .u32 q.num, .int .u64 q.lsn, .int .i64 q.kind, .string q.head, .slice aq q.slots.length cq] 28)).cell? ((⟨wc.heap.size, 0, none⟩ : Addr).add j) = some u) := World.news_of_block (heap_alloc_new wc.drew _)
            have HNB : Hid (∀ j u, (scells ⟨q, aq, cq, o⟩)[j]? = some u → ((wc.drew.alloc (.cells #[.int .u32 q.num, .int .u64 q.lsn, .int .i64 q.kind, .string q.head, .slice aq q.slots.length cq] 28)).alloc (.cells #[.int .i64 x.kind, .int .i64 x.at', .string x.S, .string x.old] 37)).cell? ((⟨wc.heap.size, 0, none⟩ : Addr).add j) = some u) := World.news_of_block (((Below.heap_alloc _ _ wc.heap.size (by simp))).trans (heap_alloc_new wc.drew _))
            have HNC : Hid (∀ j u, (scells ⟨q, aq, cq, o⟩)[j]? = some u → ((wc.drew.alloc (.cells #[.int .i64 x.kind, .int .i64 x.at', .string x.S, .string x.old] 37)).alloc (.cells #[.int .u32 q.num, .int .u64 q.lsn, .int .i64 q.kind, .string q.head, .slice aq q.slots.length cq] 28)).cell? ((⟨wc.heap.size + 1, 0, none⟩ : Addr).add j) = some u) := by
              have := World.news_of_block (heap_alloc_new (wc.drew.alloc (.cells #[.int .i64 x.kind, .int .i64 x.at', .string x.S, .string x.old] 37)) (.cells #[.int .u32 q.num, .int .u64 q.lsn, .int .i64 q.kind, .string q.head, .slice aq q.slots.length cq] 28))
              intro j u hj
              have h2 := this j u hj
              simpa using h2
            have HOB : Hid (((wc.drew.alloc (.cells #[.int .u32 q.num, .int .u64 q.lsn, .int .i64 q.kind, .string q.head, .slice aq q.slots.length cq] 28)).alloc (.cells #[.int .i64 x.kind, .int .i64 x.at', .string x.S, .string x.old] 37)).heap[wc.heap.size + 1]? = some (.cells #[.int .i64 x.kind, .int .i64 x.at', .string x.S, .string x.old] 37)) := by
              have := heap_alloc_new (wc.drew.alloc (.cells #[.int .u32 q.num, .int .u64 q.lsn, .int .i64 q.kind, .string q.head, .slice aq q.slots.length cq] 28)) (.cells #[.int .i64 x.kind, .int .i64 x.at', .string x.S, .string x.old] 37)
              show _ = _
              simpa using this
            have HOCC : Hid (((wc.drew.alloc (.cells #[.int .i64 x.kind, .int .i64 x.at', .string x.S, .string x.old] 37)).alloc (.cells #[.int .u32 q.num, .int .u64 q.lsn, .int .i64 q.kind, .string q.head, .slice aq q.slots.length cq] 28)).heap[wc.heap.size]? = some (.cells #[.int .i64 x.kind, .int .i64 x.at', .string x.S, .string x.old] 37)) := (Below.heap_alloc _ _ wc.heap.size (by simp)).trans (heap_alloc_new wc.drew _)
            have h1s : ∀ v ∈ scells ⟨q, aq, cq, o⟩, v.oneCell' = true := by intro v hv; simp [scells] at hv; rcases hv with rfl | rfl | rfl | rfl | rfl <;> rfl
            have h1o : ∀ v ∈ [Value.int .i64 x.kind, .int .i64 x.at', .string x.S, .string x.old], v.oneCell' = true := by intro v hv; simp at hv; rcases hv with rfl | rfl | rfl | rfl <;> rfl
            have H1S : Hid (∀ v ∈ scells ⟨q, aq, cq, o⟩, v.oneCell' = true) := h1s
            have H1O : Hid (∀ v ∈ [Value.int .i64 x.kind, .int .i64 x.at', .string x.S, .string x.old], v.oneCell' = true) := h1o
            clear h1s h1o
            refine wpAnyH_take (i := 0) (v := u7) (by simp only [List.getElem?_toArray, List.getElem?_cons_zero]; rfl) (by kernel_rfl) (by kernel_rfl) (by kernel_rfl) (fun _ _ _ h => h) (Or.inl ⟨by rfl, ?_⟩) hH ?_
            · intro wz hSw
              clear hSw
              go_simp
            try simp only [Act.put, List.setIfInBounds_toArray, List.set_cons_zero, List.set_cons_succ]
            refine wpAnyH_take (i := 1) (v := (.agg #[.int .u32 q.num, .int .u64 q.lsn, .int .i64 q.kind, .string q.head, .slice aq q.slots.length cq])) (by simp only [List.getElem?_toArray, List.getElem?_cons_succ, List.getElem?_cons_zero]; rfl) (by kernel_rfl) (by kernel_rfl) (by kernel_rfl) (fun _ _ _ h => h) (Or.inl ⟨by rfl, ?_⟩) hH ?_
            · intro wz hSw
              have t0 := (World.cell?_of_block (a := ⟨w2.heap.size, 0, none⟩) hSw.1).trans z0
              have t1 := (World.cell?_of_block (a := ⟨w2.heap.size, 1, none⟩) hSw.1).trans z1
              have t2 := (World.cell?_of_block (a := ⟨w2.heap.size, 2, none⟩) hSw.1).trans z2
              have t3 := (World.cell?_of_block (a := ⟨w2.heap.size, 3, none⟩) hSw.1).trans z3
              have t4 := (World.cell?_of_block (a := ⟨w2.heap.size, 4, none⟩) hSw.1).trans z4
              clear hSw
              go_simp
            try simp only [Act.put, List.setIfInBounds_toArray, List.set_cons_zero, List.set_cons_succ]
            refine wpAnyH_take (i := 4) (v := u6) (by simp only [List.getElem?_toArray, List.getElem?_cons_succ, List.getElem?_cons_zero]; rfl) (by kernel_rfl) (by kernel_rfl) (by kernel_rfl) (fun _ _ _ h => h) (Or.inl ⟨by rfl, ?_⟩) hH ?_
            · intro wz hSw
              clear hSw
              go_simp
            try simp only [Act.put, List.setIfInBounds_toArray, List.set_cons_zero, List.set_cons_succ]
            refine wpAnyH_take (i := 5) (v := (.agg #[.int .i64 x.kind, .int .i64 x.at', .string x.S, .string x.old])) (by simp only [List.getElem?_toArray, List.getElem?_cons_succ, List.getElem?_cons_zero]; rfl) (by kernel_rfl) (by kernel_rfl) (by kernel_rfl) (fun _ _ _ h => h) (Or.inl ⟨by rfl, ?_⟩) hH ?_
            · intro wz hSw
              have t0 := (World.cell?_of_block (a := ⟨w3.heap.size, 0, none⟩) hSw.2.1).trans y0
              have t1 := (World.cell?_of_block (a := ⟨w3.heap.size, 1, none⟩) hSw.2.1).trans y1
              have t2 := (World.cell?_of_block (a := ⟨w3.heap.size, 2, none⟩) hSw.2.1).trans y2
              have t3 := (World.cell?_of_block (a := ⟨w3.heap.size, 3, none⟩) hSw.2.1).trans y3
              clear hSw
              go_simp
            try simp only [Act.put, List.setIfInBounds_toArray, List.set_cons_zero, List.set_cons_succ]
            refine wpAnyH_take (i := 8) (v := (.agg #[.int .u32 r.num, .int .u64 r.lsn, .int .i64 r.kind, .string r.head, .slice ar r.slots.length cr])) (by simp only [List.getElem?_toArray, List.getElem?_cons_succ, List.getElem?_cons_zero]; rfl) (by kernel_rfl) (by kernel_rfl) (by kernel_rfl) (fun _ _ _ h => h) (Or.inl ⟨by rfl, ?_⟩) hH ?_
            · intro wz hSw
              have t0 := (World.cell?_of_block (a := ⟨N, 0, none⟩) hSw.2.2).trans n0
              have t1 := (World.cell?_of_block (a := ⟨N, 1, none⟩) hSw.2.2).trans n1
              have t2 := (World.cell?_of_block (a := ⟨N, 2, none⟩) hSw.2.2).trans n2
              have t3 := (World.cell?_of_block (a := ⟨N, 3, none⟩) hSw.2.2).trans n3
              have t4 := (World.cell?_of_block (a := ⟨N, 4, none⟩) hSw.2.2).trans n4
              clear hSw
              go_simp
            try simp only [Act.put, List.setIfInBounds_toArray, List.set_cons_zero, List.set_cons_succ]
            refine wpAnyH_ready (rs := [2, 6]) (by kernel_rfl) (by simp) ?_
            refine AllReadyH.cons (i := 2) (by simp only [List.getElem?_toArray, List.getElem?_cons_succ, List.getElem?_cons_zero]; rfl) (fun K hK => ?_) ?_
            · go_simp
              refine hK.out _ _ ⟨KA.out.block _ m1, KA.out.block _ m2, KA.out.block _ hN2⟩ (fun hHeld => ?_)
              clear hK K
              try simp only [Act.put, List.setIfInBounds_toArray, List.set_cons_zero, List.set_cons_succ]
              refine wpAnyH_ready (rs := [3, 6]) (by kernel_rfl) (by simp) ?_
              refine AllReadyH.cons (i := 3) (by simp only [List.getElem?_toArray, List.getElem?_cons_succ, List.getElem?_cons_zero]; rfl) (fun K hK => ?_) ?_
              · refine step_append_lies _ (by rfl) _ _ 35 (by rfl) 0 28 i1 _ 5 64 Try.underlying35 hi1 hz10 hz11 hz12 (by rfl) (by decide) u7 H.length (H.flatMap scells) (by rfl) (HB6.out.1.below KA.out).was ⟨wc.heap.size, 0, none⟩ 1 1 (scells ⟨q, aq, cq, o⟩) (by rfl) (by rfl) HNA.out H1S.out (by decide) (by have := HLEN.out; unfold maxLen; omega) (by have := HLEN.out; omega) (Nat.zero_le _) (wc.heap.size + 1) (by simp) ?_
                intro g cap w7 hown1 hgrow1 hat1 hlt1
                have sz7 := hgrow1.size
                have KP1 : Hid (∀ b, b < wc.heap.size → u7.ownBlock ≠ some b → w7.heap[b]? = wc.heap[b]?) := fun b hb hn => (hgrow1.block b (Nat.lt_of_lt_of_le hb KA.out.size) (fun e => hn e.symm)).trans (KA.out.block b hb)
                have L1 : Hid ((Value.slice (some ⟨g, 0, none⟩) (H.length + 1) cap).ownBlock = u7.ownBlock ∨ ∃ z, (Value.slice (some ⟨g, 0, none⟩) (H.length + 1) cap).ownBlock = some z ∧ wc.heap.size ≤ z) := by
                  rcases hat1 with h | h
                  · exact .inl h.symm
                  · exact .inr ⟨g, rfl, by omega⟩
                have HW1 : Hid _ := hown1
                have HG1 : Hid _ := hgrow1
                have hs7 : wc.heap.size ≤ w7.heap.size := Nat.le_trans KA.out.size hgrow1.size
                have OW2 : Hid (w7.ownsRow 0 37 4 u6 H.length (H.flatMap ocells)) := HB6.out.1.other KA.out hgrow1
                clear hown1 hgrow1 hat1 sz7
                refine hK.out _ _ ⟨KP1.out _ m1 (fun e => (HN1.out _ e).2 rfl), KP1.out _ m2 (fun e => by have := (HN1.out _ e).1; omega), KP1.out _ hN2 (fun e => by have := (HN1.out _ e).1; omega)⟩ (fun hHeld => ?_)
                clear hK K
                try simp only [Act.put, List.setIfInBounds_toArray, List.set_cons_zero, List.set_cons_succ]
                refine wpAnyH_ready (rs := [6]) (by kernel_rfl) (by simp) ?_
                refine AllReadyH.cons (i := 6) (by simp only [List.getElem?_toArray, List.getElem?_cons_succ, List.getElem?_cons_zero]; rfl) (fun K hK => ?_) ?_
                · go_simp
                  refine hK.out _ _ ⟨(Below.heap_alloc _ _ _ (by omega)).trans hHeld.1, (Below.heap_alloc _ _ _ (by omega)).trans hHeld.2.1, (Below.heap_alloc _ _ _ (by omega)).trans hHeld.2.2⟩ (fun hHeld => ?_)
                  clear hK K
                  try simp only [Act.put, List.setIfInBounds_toArray, List.set_cons_zero, List.set_cons_succ]
                  refine wpAnyH_ready (rs := [7]) (by kernel_rfl) (by simp) ?_
                  refine AllReadyH.cons (i := 7) (by simp only [List.getElem?_toArray, List.getElem?_cons_succ, List.getElem?_cons_zero]; rfl) (fun K hK => ?_) ?_
                  · refine step_append_lies _ (by rfl) _ _ 29 (by rfl) 0 37 i2 _ 4 48 Try.underlying29 hi2 hz20 hz21 hz22 (by rfl) (by decide) u6 H.length (H.flatMap ocells) (by rfl) (owns_same OW2.out fun g hg => (Below.heap_alloc _ _ g (OW2.out.lt g hg).2)) ⟨w7.heap.size, 0, none⟩ 1 1 [Value.int .i64 x.kind, .int .i64 x.at', .string x.S, .string x.old] (by rfl) (by rfl) (World.news_of_block (heap_alloc_new w7 _)) H1O.out (by decide) (by have := HLEN.out; unfold maxLen; omega) (by have := HLEN.out; omega) (Nat.zero_le _) (w7.heap.size + 1) (by simp) ?_
                    intro g2 cap2 w8 hown2 hgrow2 hat2 hlt2
                    have L2 : Hid ((Value.slice (some ⟨g2, 0, none⟩) (H.length + 1) cap2).ownBlock = u6.ownBlock ∨ ∃ z, (Value.slice (some ⟨g2, 0, none⟩) (H.length + 1) cap2).ownBlock = some z ∧ wc.heap.size ≤ z) := by
                      rcases hat2 with h | h
                      · exact .inl h.symm
                      · exact .inr ⟨g2, rfl, by omega⟩
                    have KP2 : Hid (∀ b, b < wc.heap.size → u7.ownBlock ≠ some b → u6.ownBlock ≠ some b → w8.heap[b]? = wc.heap[b]?) := fun b hb hn hn2 => (hgrow2.block b (by first | omega | (simp; omega)) (fun e => hn2 e.symm)).trans ((Below.heap_alloc _ _ b (by omega)).trans (KP1.out b hb hn))
                    rw [HOC.out] at hown2
                    have HP : Hid _ := fun (cr' : Nat) => HB6.out.1.push (q' := r) (aq' := ar) (cq' := cr') o KA.out HW1.out HG1.out L1.out ((Below.refl _ _).alloc (Nat.le_refl _) _) hown2 hgrow2 L2.out HSX.out
                    clear hown2 hgrow2 hat2
                    refine hK.out _ _ ⟨KP2.out _ m1 (fun e => (HN1.out _ e).2 rfl) (fun e => (HN2.out _ e).2 rfl), KP2.out _ m2 (fun e => by have := (HN1.out _ e).1; omega) (fun e => by have := (HN2.out _ e).1; omega), KP2.out _ hN2 (fun e => by have := (HN1.out _ e).1; omega) (fun e => by have := (HN2.out _ e).1; omega)⟩ (fun hHeld => ?_)
                    clear hK K
                    try simp only [Act.put, List.setIfInBounds_toArray, List.set_cons_zero, List.set_cons_succ]
                    refine wpAnyH_take (i := 9) (v := (.slice (some ⟨g, 0, none⟩) (H.length + 1) cap)) (by simp only [List.getElem?_toArray, List.getElem?_cons_succ, List.getElem?_cons_zero]; rfl) (by kernel_rfl) (by kernel_rfl) (by kernel_rfl) (fun _ _ _ h => h) (Or.inl ⟨by rfl, ?_⟩) hHeld ?_
                    · intro wz hSw
                      clear hSw
                      go_simp
                    try simp only [Act.put, List.setIfInBounds_toArray, List.set_cons_zero, List.set_cons_succ]
                    refine wpAnyH_take (i := 10) (v := (.slice (some ⟨g2, 0, none⟩) (H.length + 1) cap2)) (by simp only [List.getElem?_toArray, List.getElem?_cons_succ, List.getElem?_cons_zero]; rfl) (by kernel_rfl) (by kernel_rfl) (by kernel_rfl) (fun _ _ _ h => h) (Or.inl ⟨by rfl, ?_⟩) hHeld ?_
                    · intro wz hSw
                      clear hSw
                      go_simp
                    try simp only [Act.put, List.setIfInBounds_toArray, List.set_cons_zero, List.set_cons_succ]
                    refine wpAnyH_done (by kernel_rfl) ?_ _
                    have s0 := (World.cell?_of_block (a := ⟨w2.heap.size, 0, none⟩) hHeld.1).trans z0
                    have s1 := (World.cell?_of_block (a := ⟨w2.heap.size, 1, none⟩) hHeld.1).trans z1
                    have s2 := (World.cell?_of_block (a := ⟨w2.heap.size, 2, none⟩) hHeld.1).trans z2
                    have s3 := (World.cell?_of_block (a := ⟨w2.heap.size, 3, none⟩) hHeld.1).trans z3
                    have s4 := (World.cell?_of_block (a := ⟨w2.heap.size, 4, none⟩) hHeld.1).trans z4
                    have fz0 := (World.frozen?_of_block (a := ⟨w2.heap.size, 0, none⟩) hHeld.1).trans (HB6.out.1.cur 0 (by decide)).2
                    have fz1 := (World.frozen?_of_block (a := ⟨w2.heap.size, 1, none⟩) hHeld.1).trans (HB6.out.1.cur 1 (by decide)).2
                    have fz2 := (World.frozen?_of_block (a := ⟨w2.heap.size, 2, none⟩) hHeld.1).trans (HB6.out.1.cur 2 (by decide)).2
                    have fz3 := (World.frozen?_of_block (a := ⟨w2.heap.size, 3, none⟩) hHeld.1).trans (HB6.out.1.cur 3 (by decide)).2
                    have fz4 := (World.frozen?_of_block (a := ⟨w2.heap.size, 4, none⟩) hHeld.1).trans (HB6.out.1.cur 4 (by decide)).2
                    show Oper.wp _ _ _ _ _ _
                    go_simp
                    refine NoPanic.normal ?_
                    go_wp2_with fail
                    go_roundw
                    case rel => exact ⟨k + 1, H ++ [(⟨q, aq, cq, o⟩ : StepV)], r, ar, cr, by omega, by omega, by go_num, HP.out cr, Chain.snoc.2 ⟨HB6.out.2.1, HG.out, HNX.out.1⟩, HNX.out.2, by have := HB6.out.2.2.2; simp; omega⟩
                    case measure => simp [intOf]; omega
                  exact AllReadyH.nil
                exact AllReadyH.nil
              refine AllReadyH.cons (i := 6) (by simp only [List.getElem?_toArray, List.getElem?_cons_succ, List.getElem?_cons_zero]; rfl) (fun K hK => ?_) ?_
              · go_simp
                refine hK.out _ _ ⟨KB.out.block _ m1, KB.out.block _ m2, KB.out.block _ hN2⟩ (fun hHeld => ?_)
                clear hK K
                try simp only [Act.put, List.setIfInBounds_toArray, List.set_cons_zero, List.set_cons_succ]
                refine wpAnyH_ready (rs := [3]) (by kernel_rfl) (by simp) ?_
                refine AllReadyH.cons (i := 3) (by simp only [List.getElem?_toArray, List.getElem?_cons_succ, List.getElem?_cons_zero]; rfl) (fun K hK => ?_) ?_
                · refine step_append_lies _ (by rfl) _ _ 35 (by rfl) 0 28 i1 _ 5 64 Try.underlying35 hi1 hz10 hz11 hz12 (by rfl) (by decide) u7 H.length (H.flatMap scells) (by rfl) (HB6.out.1.below KB.out).was ⟨wc.heap.size, 0, none⟩ 1 1 (scells ⟨q, aq, cq, o⟩) (by rfl) (by rfl) HNB.out H1S.out (by decide) (by have := HLEN.out; unfold maxLen; omega) (by have := HLEN.out; omega) (Nat.zero_le _) (wc.heap.size + 1 + 1) (by simp) ?_
                  intro g cap w7 hown1 hgrow1 hat1 hlt1
                  have sz7 := hgrow1.size
                  have KP1 : Hid (∀ b, b < wc.heap.size → u7.ownBlock ≠ some b → w7.heap[b]? = wc.heap[b]?) := fun b hb hn => (hgrow1.block b (Nat.lt_of_lt_of_le hb KB.out.size) (fun e => hn e.symm)).trans (KB.out.block b hb)
                  have L1 : Hid ((Value.slice (some ⟨g, 0, none⟩) (H.length + 1) cap).ownBlock = u7.ownBlock ∨ ∃ z, (Value.slice (some ⟨g, 0, none⟩) (H.length + 1) cap).ownBlock = some z ∧ wc.heap.size ≤ z) := by
                    rcases hat1 with h | h
                    · exact .inl h.symm
                    · exact .inr ⟨g, rfl, by omega⟩
                  have HW1 : Hid _ := hown1
                  have HG1 : Hid _ := hgrow1
                  have hs7 : wc.heap.size ≤ w7.heap.size := Nat.le_trans KB.out.size hgrow1.size
                  have OW2 : Hid (w7.ownsRow 0 37 4 u6 H.length (H.flatMap ocells)) := HB6.out.1.other KB.out hgrow1
                  have NW2 : Hid (∀ j u, [Value.int .i64 x.kind, .int .i64 x.at', .string x.S, .string x.old][j]? = some u → w7.cell? ((⟨wc.heap.size + 1, 0, none⟩ : Addr).add j) = some u) := World.news_of_block ((hgrow1.block _ (by simp <;> omega) (fun e => by have := (HN1.out _ e.symm).1; omega)).trans HOB.out)
                  clear hown1 hgrow1 hat1 sz7
                  refine hK.out _ _ ⟨KP1.out _ m1 (fun e => (HN1.out _ e).2 rfl), KP1.out _ m2 (fun e => by have := (HN1.out _ e).1; omega), KP1.out _ hN2 (fun e => by have := (HN1.out _ e).1; omega)⟩ (fun hHeld => ?_)
                  clear hK K
                  try simp only [Act.put, List.setIfInBounds_toArray, List.set_cons_zero, List.set_cons_succ]
                  refine wpAnyH_ready (rs := [7]) (by kernel_rfl) (by simp) ?_
                  refine AllReadyH.cons (i := 7) (by simp only [List.getElem?_toArray, List.getElem?_cons_succ, List.getElem?_cons_zero]; rfl) (fun K hK => ?_) ?_
                  · refine step_append_lies _ (by rfl) _ _ 29 (by rfl) 0 37 i2 _ 4 48 Try.underlying29 hi2 hz20 hz21 hz22 (by rfl) (by decide) u6 H.length (H.flatMap ocells) (by rfl) OW2.out ⟨wc.heap.size + 1, 0, none⟩ 1 1 [Value.int .i64 x.kind, .int .i64 x.at', .string x.S, .string x.old] (by rfl) (by rfl) NW2.out H1O.out (by decide) (by have := HLEN.out; unfold maxLen; omega) (by have := HLEN.out; omega) (Nat.zero_le _) (w7.heap.size) (by simp) ?_
                    intro g2 cap2 w8 hown2 hgrow2 hat2 hlt2
                    have L2 : Hid ((Value.slice (some ⟨g2, 0, none⟩) (H.length + 1) cap2).ownBlock = u6.ownBlock ∨ ∃ z, (Value.slice (some ⟨g2, 0, none⟩) (H.length + 1) cap2).ownBlock = some z ∧ wc.heap.size ≤ z) := by
                      rcases hat2 with h | h
                      · exact .inl h.symm
                      · exact .inr ⟨g2, rfl, by omega⟩
                    have KP2 : Hid (∀ b, b < wc.heap.size → u7.ownBlock ≠ some b → u6.ownBlock ≠ some b → w8.heap[b]? = wc.heap[b]?) := fun b hb hn hn2 => (hgrow2.block b (by first | omega | (simp; omega)) (fun e => hn2 e.symm)).trans ((KP1.out b hb hn))
                    rw [HOC.out] at hown2
                    have HP : Hid _ := fun (cr' : Nat) => HB6.out.1.push (q' := r) (aq' := ar) (cq' := cr') o KB.out HW1.out HG1.out L1.out (Below.refl _ _) hown2 hgrow2 L2.out HSX.out
                    clear hown2 hgrow2 hat2
                    refine hK.out _ _ ⟨KP2.out _ m1 (fun e => (HN1.out _ e).2 rfl) (fun e => (HN2.out _ e).2 rfl), KP2.out _ m2 (fun e => by have := (HN1.out _ e).1; omega) (fun e => by have := (HN2.out _ e).1; omega), KP2.out _ hN2 (fun e => by have := (HN1.out _ e).1; omega) (fun e => by have := (HN2.out _ e).1; omega)⟩ (fun hHeld => ?_)
                    clear hK K
                    try simp only [Act.put, List.setIfInBounds_toArray, List.set_cons_zero, List.set_cons_succ]
                    refine wpAnyH_take (i := 9) (v := (.slice (some ⟨g, 0, none⟩) (H.length + 1) cap)) (by simp only [List.getElem?_toArray, List.getElem?_cons_succ, List.getElem?_cons_zero]; rfl) (by kernel_rfl) (by kernel_rfl) (by kernel_rfl) (fun _ _ _ h => h) (Or.inl ⟨by rfl, ?_⟩) hHeld ?_
                    · intro wz hSw
                      clear hSw
                      go_simp
                    try simp only [Act.put, List.setIfInBounds_toArray, List.set_cons_zero, List.set_cons_succ]
                    refine wpAnyH_take (i := 10) (v := (.slice (some ⟨g2, 0, none⟩) (H.length + 1) cap2)) (by simp only [List.getElem?_toArray, List.getElem?_cons_succ, List.getElem?_cons_zero]; rfl) (by kernel_rfl) (by kernel_rfl) (by kernel_rfl) (fun _ _ _ h => h) (Or.inl ⟨by rfl, ?_⟩) hHeld ?_
                    · intro wz hSw
                      clear hSw
                      go_simp
                    try simp only [Act.put, List.setIfInBounds_toArray, List.set_cons_zero, List.set_cons_succ]
                    refine wpAnyH_done (by kernel_rfl) ?_ _
                    have s0 := (World.cell?_of_block (a := ⟨w2.heap.size, 0, none⟩) hHeld.1).trans z0
                    have s1 := (World.cell?_of_block (a := ⟨w2.heap.size, 1, none⟩) hHeld.1).trans z1
                    have s2 := (World.cell?_of_block (a := ⟨w2.heap.size, 2, none⟩) hHeld.1).trans z2
                    have s3 := (World.cell?_of_block (a := ⟨w2.heap.size, 3, none⟩) hHeld.1).trans z3
                    have s4 := (World.cell?_of_block (a := ⟨w2.heap.size, 4, none⟩) hHeld.1).trans z4
                    have fz0 := (World.frozen?_of_block (a := ⟨w2.heap.size, 0, none⟩) hHeld.1).trans (HB6.out.1.cur 0 (by decide)).2
                    have fz1 := (World.frozen?_of_block (a := ⟨w2.heap.size, 1, none⟩) hHeld.1).trans (HB6.out.1.cur 1 (by decide)).2
                    have fz2 := (World.frozen?_of_block (a := ⟨w2.heap.size, 2, none⟩) hHeld.1).trans (HB6.out.1.cur 2 (by decide)).2
                    have fz3 := (World.frozen?_of_block (a := ⟨w2.heap.size, 3, none⟩) hHeld.1).trans (HB6.out.1.cur 3 (by decide)).2
                    have fz4 := (World.frozen?_of_block (a := ⟨w2.heap.size, 4, none⟩) hHeld.1).trans (HB6.out.1.cur 4 (by decide)).2
                    show Oper.wp _ _ _ _ _ _
                    go_simp
                    refine NoPanic.normal ?_
                    go_wp2_with fail
                    go_roundw
                    case rel => exact ⟨k + 1, H ++ [(⟨q, aq, cq, o⟩ : StepV)], r, ar, cr, by omega, by omega, by go_num, HP.out cr, Chain.snoc.2 ⟨HB6.out.2.1, HG.out, HNX.out.1⟩, HNX.out.2, by have := HB6.out.2.2.2; simp; omega⟩
                    case measure => simp [intOf]; omega
                  exact AllReadyH.nil
                exact AllReadyH.nil
              exact AllReadyH.nil
            refine AllReadyH.cons (i := 6) (by simp only [List.getElem?_toArray, List.getElem?_cons_succ, List.getElem?_cons_zero]; rfl) (fun K hK => ?_) ?_
            · go_simp
              refine hK.out _ _ ⟨K2.out.block _ m1, K2.out.block _ m2, K2.out.block _ hN2⟩ (fun hHeld => ?_)
              clear hK K
              try simp only [Act.put, List.setIfInBounds_toArray, List.set_cons_zero, List.set_cons_succ]
              refine wpAnyH_ready (rs := [2]) (by kernel_rfl) (by simp) ?_
              refine AllReadyH.cons (i := 2) (by simp only [List.getElem?_toArray, List.getElem?_cons_succ, List.getElem?_cons_zero]; rfl) (fun K hK => ?_) ?_
              · go_simp
                refine hK.out _ _ ⟨KC.out.block _ m1, KC.out.block _ m2, KC.out.block _ hN2⟩ (fun hHeld => ?_)
                clear hK K
                try simp only [Act.put, List.setIfInBounds_toArray, List.set_cons_zero, List.set_cons_succ]
                refine wpAnyH_ready (rs := [3]) (by kernel_rfl) (by simp) ?_
                refine AllReadyH.cons (i := 3) (by simp only [List.getElem?_toArray, List.getElem?_cons_succ, List.getElem?_cons_zero]; rfl) (fun K hK => ?_) ?_
                · refine step_append_lies _ (by rfl) _ _ 35 (by rfl) 0 28 i1 _ 5 64 Try.underlying35 hi1 hz10 hz11 hz12 (by rfl) (by decide) u7 H.length (H.flatMap scells) (by rfl) (HB6.out.1.below KC.out).was ⟨wc.heap.size + 1, 0, none⟩ 1 1 (scells ⟨q, aq, cq, o⟩) (by rfl) (by rfl) HNC.out H1S.out (by decide) (by have := HLEN.out; unfold maxLen; omega) (by have := HLEN.out; omega) (Nat.zero_le _) (wc.heap.size + 1 + 1) (by simp) ?_
                  intro g cap w7 hown1 hgrow1 hat1 hlt1
                  have sz7 := hgrow1.size
                  have KP1 : Hid (∀ b, b < wc.heap.size → u7.ownBlock ≠ some b → w7.heap[b]? = wc.heap[b]?) := fun b hb hn => (hgrow1.block b (Nat.lt_of_lt_of_le hb KC.out.size) (fun e => hn e.symm)).trans (KC.out.block b hb)
                  have L1 : Hid ((Value.slice (some ⟨g, 0, none⟩) (H.length + 1) cap).ownBlock = u7.ownBlock ∨ ∃ z, (Value.slice (some ⟨g, 0, none⟩) (H.length + 1) cap).ownBlock = some z ∧ wc.heap.size ≤ z) := by
                    rcases hat1 with h | h
                    · exact .inl h.symm
                    · exact .inr ⟨g, rfl, by omega⟩
                  have HW1 : Hid _ := hown1
                  have HG1 : Hid _ := hgrow1
                  have hs7 : wc.heap.size ≤ w7.heap.size := Nat.le_trans KC.out.size hgrow1.size
                  have OW2 : Hid (w7.ownsRow 0 37 4 u6 H.length (H.flatMap ocells)) := HB6.out.1.other KC.out hgrow1
                  have NW2 : Hid (∀ j u, [Value.int .i64 x.kind, .int .i64 x.at', .string x.S, .string x.old][j]? = some u → w7.cell? ((⟨wc.heap.size, 0, none⟩ : Addr).add j) = some u) := World.news_of_block ((hgrow1.block _ (by simp <;> omega) (fun e => by have := (HN1.out _ e.symm).1; omega)).trans HOCC.out)
                  clear hown1 hgrow1 hat1 sz7
                  refine hK.out _ _ ⟨KP1.out _ m1 (fun e => (HN1.out _ e).2 rfl), KP1.out _ m2 (fun e => by have := (HN1.out _ e).1; omega), KP1.out _ hN2 (fun e => by have := (HN1.out _ e).1; omega)⟩ (fun hHeld => ?_)
                  clear hK K
                  try simp only [Act.put, List.setIfInBounds_toArray, List.set_cons_zero, List.set_cons_succ]
                  refine wpAnyH_ready (rs := [7]) (by kernel_rfl) (by simp) ?_
                  refine AllReadyH.cons (i := 7) (by simp only [List.getElem?_toArray, List.getElem?_cons_succ, List.getElem?_cons_zero]; rfl) (fun K hK => ?_) ?_
                  · refine step_append_lies _ (by rfl) _ _ 29 (by rfl) 0 37 i2 _ 4 48 Try.underlying29 hi2 hz20 hz21 hz22 (by rfl) (by decide) u6 H.length (H.flatMap ocells) (by rfl) OW2.out ⟨wc.heap.size, 0, none⟩ 1 1 [Value.int .i64 x.kind, .int .i64 x.at', .string x.S, .string x.old] (by rfl) (by rfl) NW2.out H1O.out (by decide) (by have := HLEN.out; unfold maxLen; omega) (by have := HLEN.out; omega) (Nat.zero_le _) (w7.heap.size) (by simp) ?_
                    intro g2 cap2 w8 hown2 hgrow2 hat2 hlt2
                    have L2 : Hid ((Value.slice (some ⟨g2, 0, none⟩) (H.length + 1) cap2).ownBlock = u6.ownBlock ∨ ∃ z, (Value.slice (some ⟨g2, 0, none⟩) (H.length + 1) cap2).ownBlock = some z ∧ wc.heap.size ≤ z) := by
                      rcases hat2 with h | h
                      · exact .inl h.symm
                      · exact .inr ⟨g2, rfl, by omega⟩
                    have KP2 : Hid (∀ b, b < wc.heap.size → u7.ownBlock ≠ some b → u6.ownBlock ≠ some b → w8.heap[b]? = wc.heap[b]?) := fun b hb hn hn2 => (hgrow2.block b (by first | omega | (simp; omega)) (fun e => hn2 e.symm)).trans ((KP1.out b hb hn))
                    rw [HOC.out] at hown2
                    have HP : Hid _ := fun (cr' : Nat) => HB6.out.1.push (q' := r) (aq' := ar) (cq' := cr') o KC.out HW1.out HG1.out L1.out (Below.refl _ _) hown2 hgrow2 L2.out HSX.out
                    clear hown2 hgrow2 hat2
                    refine hK.out _ _ ⟨KP2.out _ m1 (fun e => (HN1.out _ e).2 rfl) (fun e => (HN2.out _ e).2 rfl), KP2.out _ m2 (fun e => by have := (HN1.out _ e).1; omega) (fun e => by have := (HN2.out _ e).1; omega), KP2.out _ hN2 (fun e => by have := (HN1.out _ e).1; omega) (fun e => by have := (HN2.out _ e).1; omega)⟩ (fun hHeld => ?_)
                    clear hK K
                    try simp only [Act.put, List.setIfInBounds_toArray, List.set_cons_zero, List.set_cons_succ]
                    refine wpAnyH_take (i := 9) (v := (.slice (some ⟨g, 0, none⟩) (H.length + 1) cap)) (by simp only [List.getElem?_toArray, List.getElem?_cons_succ, List.getElem?_cons_zero]; rfl) (by kernel_rfl) (by kernel_rfl) (by kernel_rfl) (fun _ _ _ h => h) (Or.inl ⟨by rfl, ?_⟩) hHeld ?_
                    · intro wz hSw
                      clear hSw
                      go_simp
                    try simp only [Act.put, List.setIfInBounds_toArray, List.set_cons_zero, List.set_cons_succ]
                    refine wpAnyH_take (i := 10) (v := (.slice (some ⟨g2, 0, none⟩) (H.length + 1) cap2)) (by simp only [List.getElem?_toArray, List.getElem?_cons_succ, List.getElem?_cons_zero]; rfl) (by kernel_rfl) (by kernel_rfl) (by kernel_rfl) (fun _ _ _ h => h) (Or.inl ⟨by rfl, ?_⟩) hHeld ?_
                    · intro wz hSw
                      clear hSw
                      go_simp
                    try simp only [Act.put, List.setIfInBounds_toArray, List.set_cons_zero, List.set_cons_succ]
                    refine wpAnyH_done (by kernel_rfl) ?_ _
                    have s0 := (World.cell?_of_block (a := ⟨w2.heap.size, 0, none⟩) hHeld.1).trans z0
                    have s1 := (World.cell?_of_block (a := ⟨w2.heap.size, 1, none⟩) hHeld.1).trans z1
                    have s2 := (World.cell?_of_block (a := ⟨w2.heap.size, 2, none⟩) hHeld.1).trans z2
                    have s3 := (World.cell?_of_block (a := ⟨w2.heap.size, 3, none⟩) hHeld.1).trans z3
                    have s4 := (World.cell?_of_block (a := ⟨w2.heap.size, 4, none⟩) hHeld.1).trans z4
                    have fz0 := (World.frozen?_of_block (a := ⟨w2.heap.size, 0, none⟩) hHeld.1).trans (HB6.out.1.cur 0 (by decide)).2
                    have fz1 := (World.frozen?_of_block (a := ⟨w2.heap.size, 1, none⟩) hHeld.1).trans (HB6.out.1.cur 1 (by decide)).2
                    have fz2 := (World.frozen?_of_block (a := ⟨w2.heap.size, 2, none⟩) hHeld.1).trans (HB6.out.1.cur 2 (by decide)).2
                    have fz3 := (World.frozen?_of_block (a := ⟨w2.heap.size, 3, none⟩) hHeld.1).trans (HB6.out.1.cur 3 (by decide)).2
                    have fz4 := (World.frozen?_of_block (a := ⟨w2.heap.size, 4, none⟩) hHeld.1).trans (HB6.out.1.cur 4 (by decide)).2
                    show Oper.wp _ _ _ _ _ _
                    go_simp
                    refine NoPanic.normal ?_
                    go_wp2_with fail
                    go_roundw
                    case rel => exact ⟨k + 1, H ++ [(⟨q, aq, cq, o⟩ : StepV)], r, ar, cr, by omega, by omega, by go_num, HP.out cr, Chain.snoc.2 ⟨HB6.out.2.1, HG.out, HNX.out.1⟩, HNX.out.2, by have := HB6.out.2.2.2; simp; omega⟩
                    case measure => simp [intOf]; omega
                  exact AllReadyH.nil
                exact AllReadyH.nil
              exact AllReadyH.nil
            exact AllReadyH.nil
          · have hEb : (E != 0) = true := by rw [bne_iff_ne]; exact hE
            go_wp2_with fail
            go_roundw
            case rel => exact ⟨k + 1, H, q, aq, cq, by omega, by omega, by go_num, HB6.out.1, HB6.out.2.1, HB6.out.2.2.1, by have := HB6.out.2.2.2; omega⟩
            case measure => simp [intOf]; omega
    · have hex : ¬ (k : Int) < n ∨ (k : Int) < n ∧ ¬ (k : Int) < 40 := by omega
      obtain ⟨da, dc, rfl, hd⟩ := owns_form HB.out.1.done
      obtain ⟨wa, wcap, rfl, hwr⟩ := owns_form HB.out.1.was
      have hl40 : H.length ≤ 40 := by have := HB.out.2.2.2; omega
      rcases hex with hex | ⟨hex0, hex⟩
      all_goals
        go_wp2_with fail
        go_loopw [12] (fun i wr => ∃ (j : Nat) (ii : Int) (q : SheetV) (aq : Option Addr) (cq : Nat), j ≤ H.length ∧ ii = (j : Int) - 1 ∧ i = .int .i64 ii ∧ Hid (BackAt w wr w2.heap.size p q a aq c cq H (.slice wa H.length wcap) (.slice da H.length dc) ∧ Chain (H.take j) p q ∧ q.Fits)) (fun i _ => (intOf i + 1).toNat)
        case atStart => exact ⟨H.length, _, q, aq, cq, Nat.le_refl _, rfl, by go_num, HB.out.1, by rw [List.take_length]; exact HB.out.2.1, HB.out.2.2.1⟩
        case round =>
          clear HB hd hwr
          obtain ⟨j, ii, q', aq', cq', hj, hii, rfl, HB⟩ := hrel
          by_cases hj0 : j = 0
          · subst hj0
            obtain rfl : ii = -1 := by omega
            clear hii
            have HSA : Hid (∀ wx, Below wr.heap.size wr wx → Calls Try.prog 15 #[q'.val aq' cq', p.val a c] wx fun e w' => e = .returned (.bool true) ∧ Below wx.heap.size wx w') := fun wx hb => by
              have h1 : sameB q' p = true := sameB_of HB.out.2.1
              have := same_any q' p aq' a cq' c wx ((fits_ok HB.out.2.2 HB.out.1.strs.at).below hb) (HPK.out.below (below_chain HB.out.1.bel hb))
              rw [h1] at this
              exact this
            simp only [SheetV.val] at HSA
            go_wp2_with fail
            refine (awake_any _).mono ?_
            rintro e w9 ⟨rfl, b9⟩
            have HB9 : Hid _ := HB.out.1.below b9
            obtain ⟨x0, x1, x2, x3, x4⟩ := HB9.out.cur.cells5
            obtain ⟨y0, y1, y2, y3, y4⟩ := HB9.out.page.cells5
            go_wp2_with fail
            refine (HSA.out _ b9).mono ?_
            rintro e w10 ⟨rfl, b10⟩
            go_wp2
            go_ret
            exact ⟨rfl, below_chain HB9.out.bel b10⟩
          · obtain ⟨m, rfl⟩ : ∃ m, j = m + 1 := ⟨j - 1, by omega⟩
            obtain rfl : ii = (m : Int) := by omega
            clear hii hj0
            have hmH : m < H.length := by omega
            have hm1 : (0 : Int) ≤ (m : Int) := by omega
            have hm2 : (m : Int) < (H.length : Int) := by omega
            obtain ⟨hx, HX⟩ : ∃ hx, Hid (hx = H[m]) := ⟨H[m], rfl⟩
            have HC : Hid (Chain (H.take m) p hx.s ∧ hx.Good ∧ SameS q' (doQ hx.s hx.o)) := by
              have := HB.out.2.1
              rw [List.take_succ_eq_append_getElem hmH, ← HX.out] at this
              exact Chain.snoc.1 this
            obtain ⟨s1, s2, s3, s4, s5⟩ := back_step HC.out.2.1 HC.out.2.2 7 (by omega)
            have HST : Hid (SameS { doQ q' (invO hx.o) with lsn := 7 } hx.s ∧ ({ doQ q' (invO hx.o) with lsn := 7 } : SheetV).Fits) := ⟨s2, s3⟩
            obtain ⟨dg, hda, hdl, hdc⟩ : ∃ g, da = some ⟨g, 0, none⟩ ∧ g < wr.heap.size ∧ ∀ k u, (H.flatMap ocells)[k]? = some u → wr.cell? ⟨g, k, none⟩ = some u := by
              obtain ⟨a', c', e, h⟩ := owns_form HB.out.1.done
              cases e
              rcases h with h | h
              · omega
              · exact h
            obtain ⟨wg, hwa, hwl, hwc⟩ : ∃ g, wa = some ⟨g, 0, none⟩ ∧ g < wr.heap.size ∧ ∀ k u, (H.flatMap scells)[k]? = some u → wr.cell? ⟨g, k, none⟩ = some u := by
              obtain ⟨a', c', e, h⟩ := owns_form HB.out.1.was
              cases e
              rcases h with h | h
              · omega
              · exact h
            subst hda
            subst hwa
            have d0 := hdc (m * 4 + 0) _ ((flat_get ocells 4 (fun _ => rfl) H m 0 hmH (by omega)).trans rfl)
            have d1 := hdc (m * 4 + 1) _ ((flat_get ocells 4 (fun _ => rfl) H m 1 hmH (by omega)).trans rfl)
            have d2 := hdc (m * 4 + 2) _ ((flat_get ocells 4 (fun _ => rfl) H m 2 hmH (by omega)).trans rfl)
            have d3 := hdc (m * 4 + 3) _ ((flat_get ocells 4 (fun _ => rfl) H m 3 hmH (by omega)).trans rfl)
            have e0 := hwc (m * 5 + 0) _ ((flat_get scells 5 (fun _ => rfl) H m 0 hmH (by omega)).trans rfl)
            have e1 := hwc (m * 5 + 1) _ ((flat_get scells 5 (fun _ => rfl) H m 1 hmH (by omega)).trans rfl)
            have e2 := hwc (m * 5 + 2) _ ((flat_get scells 5 (fun _ => rfl) H m 2 hmH (by omega)).trans rfl)
            have e3 := hwc (m * 5 + 3) _ ((flat_get scells 5 (fun _ => rfl) H m 3 hmH (by omega)).trans rfl)
            have e4 := hwc (m * 5 + 4) _ ((flat_get scells 5 (fun _ => rfl) H m 4 hmH (by omega)).trans rfl)
            rw [← HX.out] at d0 d1 d2 d3 e0 e1 e2 e3 e4
            rw [Nat.add_zero] at d0 e0
            have HOLD : Hid (hx ∈ H) := by rw [HX.out]; exact List.getElem_mem _
            have HAP : Hid (∀ wx, Below wr.heap.size wr wx → Calls Try.prog 14 #[q'.val aq' cq', (invO hx.o).val, .int .u64 7] wx fun e w' => ∃ (r : SheetV) (ar : Option Addr) (cr : Nat), e = .returned (.tuple #[r.val ar cr, .int .i64 0]) ∧ Below wx.heap.size wx w' ∧
                (SameS r hx.s ∧ r.Fits ∧ StrsFrom wx.heap.size w' ar r.slots)) := fun wx hb => by
              refine (apply_all q' aq' cq' (invO hx.o) 7 ((fits_ok HB.out.2.2 HB.out.1.strs.at).below hb) HB.out.2.2 s4 s5).mono ?_
              rintro e w' ⟨r, ar, cr, rfl, b, hr⟩
              obtain ⟨r1, r2, _⟩ := hr s1
              refine ⟨r, ar, cr, by rw [s1], b, ?_, ?_, r2⟩
              · rw [r1]; exact HST.out.1
              · rw [r1]; exact HST.out.2
            generalize invO hx.o = x at *
            clear s1 s2 s3 s4 s5 HST hdc hwc
            simp only [SheetV.val, OpV.val] at HAP
            obtain ⟨z0, z1, z2, z3, z4⟩ := HB.out.1.cur.cells5
            have hQ2 := HB.out.1.Q2
            have hkeep : ∀ wy : World, Below wr.heap.size wr wy →
                (wy.cell? ⟨w2.heap.size, 0, none⟩ = some (.int .u32 q'.num) ∧ wy.cell? ⟨w2.heap.size, 1, none⟩ = some (.int .u64 q'.lsn) ∧ wy.cell? ⟨w2.heap.size, 2, none⟩ = some (.int .i64 q'.kind) ∧ wy.cell? ⟨w2.heap.size, 3, none⟩ = some (.string q'.head) ∧ wy.cell? ⟨w2.heap.size, 4, none⟩ = some (.slice aq' q'.slots.length cq') ∧
                  wy.cell? ⟨dg, m * 4, none⟩ = some (.int .i64 x.kind) ∧ wy.cell? ⟨dg, m * 4 + 1, none⟩ = some (.int .i64 x.at') ∧ wy.cell? ⟨dg, m * 4 + 2, none⟩ = some (.string x.S) ∧ wy.cell? ⟨dg, m * 4 + 3, none⟩ = some (.string x.old)) := by
              intro wy b
              exact ⟨(b.cell (p := ⟨w2.heap.size, 0, none⟩) hQ2).trans z0, (b.cell (p := ⟨w2.heap.size, 1, none⟩) hQ2).trans z1, (b.cell (p := ⟨w2.heap.size, 2, none⟩) hQ2).trans z2, (b.cell (p := ⟨w2.heap.size, 3, none⟩) hQ2).trans z3, (b.cell (p := ⟨w2.heap.size, 4, none⟩) hQ2).trans z4,
                (b.cell (p := ⟨dg, m * 4, none⟩) hdl).trans d0, (b.cell (p := ⟨dg, m * 4 + 1, none⟩) hdl).trans d1, (b.cell (p := ⟨dg, m * 4 + 2, none⟩) hdl).trans d2, (b.cell (p := ⟨dg, m * 4 + 3, none⟩) hdl).trans d3⟩
            have ne1 : w2.heap.size ≠ wr.heap.size := by omega
            have ne2 : dg ≠ wr.heap.size := by omega
            go_upto_region 19 with fail
            go_cut [13, 14] from 105 to 113 (fun np ev wx => ∃ (N : Nat) (r : SheetV) (ar : Option Addr) (cr : Nat), np = .pointer (some ⟨N, 0, none⟩) ∧ ev = .int .i64 0 ∧ Below wr.heap.size wr wx ∧ RowV wx N 5 (five (.int .u32 r.num) (.int .u64 r.lsn) (.int .i64 r.kind) (.string r.head) (.slice ar r.slots.length cr)) ∧ wr.heap.size ≤ N ∧ N < wx.heap.size ∧ Hid (SameS r hx.s ∧ r.Fits ∧ StrsFrom wr.heap.size wx ar r.slots))
            case first =>
              go_region_held3 (fun wy => wy.cell? ⟨w2.heap.size, 0, none⟩ = some (.int .u32 q'.num) ∧ wy.cell? ⟨w2.heap.size, 1, none⟩ = some (.int .u64 q'.lsn) ∧ wy.cell? ⟨w2.heap.size, 2, none⟩ = some (.int .i64 q'.kind) ∧ wy.cell? ⟨w2.heap.size, 3, none⟩ = some (.string q'.head) ∧ wy.cell? ⟨w2.heap.size, 4, none⟩ = some (.slice aq' q'.slots.length cq') ∧
                  wy.cell? ⟨dg, m * 4, none⟩ = some (.int .i64 x.kind) ∧ wy.cell? ⟨dg, m * 4 + 1, none⟩ = some (.int .i64 x.at') ∧ wy.cell? ⟨dg, m * 4 + 2, none⟩ = some (.string x.S) ∧ wy.cell? ⟨dg, m * 4 + 3, none⟩ = some (.string x.old))
                (first | go_keep | exact hkeep _ c6 | exact hkeep _ (c6.alloc (by have := b6.size; simpa using this) _) | exact hkeep _ (below_set5 c6 (Nat.le_refl _) _ _ _ _ _))
                (first
                  | (go_at_call 14; refine (HAP.out (wr.drew.alloc (.cells #[.int .u32 0, .int .u64 0, .int .i64 0, .string ⟨#[]⟩, .slice none 0 0] 28)) (((Below.refl _ _).drew).alloc (Nat.le_refl _) _)).mono ?_; rintro e w6 ⟨r, ar, cr, rfl, b6, hr⟩; have c6 : Below wr.heap.size wr w6 := (((Below.refl _ _).drew).alloc (Nat.le_refl _) _).trans (b6.mono (by simp)); have hn6 : RowV w6 wr.heap.size 5 (five (.int .u32 0) (.int .u64 0) (.int .i64 0) (.string ⟨#[]⟩) (.slice none 0 0)) := (RowV.five_new wr.drew (.int .u32 0) (.int .u64 0) (.int .i64 0) (.string ⟨#[]⟩) (.slice none 0 0) 28).below b6 (by simp); obtain ⟨n0, n1, n2, n3, n4⟩ := hn6.cells5; obtain ⟨m0, m1, m2, m3, m4⟩ := hn6.open5)
                  | (go_at_call 14; refine (HAP.out wr.drew ((Below.refl _ _).drew)).mono ?_; rintro e w6 ⟨r, ar, cr, rfl, b6, hr⟩; have c6 : Below wr.heap.size wr w6 := ((Below.refl _ _).drew).trans b6))
              · go_wp2_with fail
                go_meet
                case rel => exact ⟨w6.heap.size, r, ar, cr, rfl, rfl, c6.alloc (by have := b6.size; simpa using this) _, RowV.five_new w6 _ _ _ _ _ _, by have := b6.size; simpa using this, by simp, ⟨hr.1, hr.2.1, hr.2.2.up ((Below.refl _ _).alloc (Nat.le_refl _) _)⟩⟩
              · go_wp2_with fail
                go_meet
                case rel => exact ⟨wr.heap.size, r, ar, cr, rfl, rfl, below_set5 c6 (Nat.le_refl _) _ _ _ _ _, hn6.set5 _ _ _ _ _, Nat.le_refl _, by have := b6.size; simp at this; simp; omega, ⟨hr.1, hr.2.1, (hr.2.2.store5 (b := wr.heap.size) (by simp) _ _ _ _ _).mono (by simp)⟩⟩
            case rest =>
              obtain ⟨N, r, ar, cr, rfl, rfl, b6, hn6, hN1, hN2, HR⟩ := hcut
              have HU : Hid ((∀ g, (Value.slice (some ⟨wg, 0, none⟩) H.length wcap).ownBlock = some g → g < wr.heap.size) ∧ (∀ g, (Value.slice (some ⟨dg, 0, none⟩) H.length dc).ownBlock = some g → g < wr.heap.size)) := ⟨fun g hg => (HB.out.1.was.lt g hg).2, fun g hg => (HB.out.1.done.lt g hg).2⟩
              have HB6 : Hid (BackAt w wc w2.heap.size p q' a aq' c cq' H _ _) := HB.out.1.below b6
              have HSX : Hid (StrsX wc (Value.slice (some ⟨wg, 0, none⟩) H.length wcap) (Value.slice (some ⟨dg, 0, none⟩) H.length dc) w2.heap.size ar r.slots) := by
                rcases HR.out.2.2 with h | ⟨bs, ob, e, h1, h2, h3⟩
                · exact .inl h
                · refine .inr ⟨bs, ob, e, h2, fun e => ?_, fun e => ?_, by omega, h3⟩
                  · have := HU.out.1 _ e; omega
                  · have := HU.out.2 _ e; omega
              have HSA : Hid (∀ wx, Below wc.heap.size wc wx → Calls Try.prog 15 #[r.val ar cr, hx.s.val hx.a hx.c] wx fun e w' => e = .returned (.bool true) ∧ Below wx.heap.size wx w') := fun wx hb => by
                have h1 : sameB r hx.s = true := sameB_of HR.out.1
                have := same_any r hx.s ar hx.a cr hx.c wx ((fits_ok HR.out.2.1 HR.out.2.2.at).below hb) ((fits_ok HC.out.2.1.1 (HB6.out.olds hx HOLD.out).at).below hb)
                rw [h1] at this
                exact this
              simp only [SheetV.val] at HSA
              have f0 := (b6.cell (p := ⟨wg, m * 5, none⟩) hwl).trans e0
              have f1 := (b6.cell (p := ⟨wg, m * 5 + 1, none⟩) hwl).trans e1
              have f2 := (b6.cell (p := ⟨wg, m * 5 + 2, none⟩) hwl).trans e2
              have f3 := (b6.cell (p := ⟨wg, m * 5 + 3, none⟩) hwl).trans e3
              have f4 := (b6.cell (p := ⟨wg, m * 5 + 4, none⟩) hwl).trans e4
              clear e0 e1 e2 e3 e4 d0 d1 d2 d3 z0 z1 z2 z3 z4 hkeep HAP HB ne1 ne2
              obtain ⟨n0, n1, n2, n3, n4⟩ := hn6.cells5
              have gx0 := cell_regrown n0
              have gx1 := cell_regrown n1
              have gx2 := cell_regrown n2
              have gx3 := cell_regrown n3
              have gx4 := cell_regrown n4
              have gy0 := cell_regrown f0
              have gy1 := cell_regrown f1
              have gy2 := cell_regrown f2
              have gy3 := cell_regrown f3
              have gy4 := cell_regrown f4
              have cS : ∀ dd os, Calls Try.prog 15 #[.agg #[.int .u32 r.num, .int .u64 r.lsn, .int .i64 r.kind, .string r.head, .slice ar r.slots.length cr], .agg #[.int .u32 hx.s.num, .int .u64 hx.s.lsn, .int .i64 hx.s.kind, .string hx.s.head, .slice hx.a hx.s.slots.length hx.c]] (grow (redrawn wc dd) os) fun e w'' => e = .returned (.bool true) ∧ ∃ p : Regrown, w'' = grow (redrawn wc p.d) p.os := fun dd os => Calls.regrown_of (HSA.out _ (below_regrown wc dd os))
              go_upto_region 20 with fail
              refine wp_region_quiet_below mixed (by kernel_rfl) ?_
              iterate 11 (quiet_step (first | (go_at_call 15; exact cS _ _)))
              refine wpQuiet_nil ?_
              intro _ hw'
              obtain ⟨⟨dq, osq⟩, hw''⟩ := hw'
              have b7 := below_regrown wc dq osq
              rw [← hw''] at b7
              rename_i w7
              clear hw'' gx0 gx1 gx2 gx3 gx4 gy0 gy1 gy2 gy3 gy4 cS f0 f1 f2 f3 f4 n0 n1 n2 n3 n4
              have HB7 : Hid (BackAt w w7 w2.heap.size p q' a aq' c cq' H _ _) := HB6.out.below b7
              have hn7 := hn6.below b7 hN2
              have HSX7 : Hid _ := HSX.out.kept (.of_below b7) (fun _ _ x => x) (fun _ _ x => x)
              clear hn6 HB6 HSX b7
              obtain ⟨n0, n1, n2, n3, n4⟩ := hn7.cells5
              obtain ⟨z0, z1, z2, z3, z4⟩ := HB7.out.cur.cells5
              obtain ⟨v0, v1, v2, v3, v4⟩ := HB7.out.cur.open5
              have HFin : Hid _ := HB7.out.setq (cq' := cr) HSX7.out
              go_wp2_with fail
              go_roundw
              case rel => exact ⟨m, (m : Int) - 1, r, ar, cr, by omega, rfl, by go_num, HFin.out, HC.out.1.same HR.out.1, HR.out.2.1⟩
              case measure => simp [intOf]

end Go.Proofs.Ytpggeejolajmgaa
