/-
  page.Apply of a format: the slots are nil behind it.
  A slice of slices of entries in memory: the leaves that girderlaw13.laid makes.
  Where girderlaw13.laid stands.
  A leaf that girderlaw13.laid fills.
-/
import Derived.Test.YtpllidadpcahbaaGreatBase12C
import Derived.Test.YtpllidadpcahbaaGreatTreeSortC
import Derived.Test.YtpllidadpcahbaaGreatBase8C
namespace Go.Proofs.YtpllidadpcahbaaGreat
open Go.RowKit Go.Sort
set_option linter.unusedVariables false
set_option linter.unusedSimpArgs false

/-- What page.change does to a page, where the slots are nil behind it. -/
def ChangeDoesN (p : SheetV) (o : OpV) (E : Int) (q : SheetV) : Prop :=
  ∀ B w b bs, SheetAt B w b bs p → Calls Tryz.prog 42 #[.pointer (some ⟨b, 0, none⟩), o.val] w fun e w' => e = .returned (.int .i64 E) ∧ Below B w w' ∧
    (E = 0 → ∃ a' c', RowV w' b 5 (five (.int .u32 q.num) (.int .u64 q.lsn) (.int .i64 q.kind) (.string q.head) (.slice a' q.slots.length c')) ∧ StrsNot B b w' a' q.slots ∧ (a' = none ∧ c' = 0))

set_option maxHeartbeats 1600000 in
set_option maxRecDepth 20000 in
theorem change_fmtN {p : SheetV} {o : OpV} (ho : o.Ok) (hk : o.kind = 1) : ChangeDoesN p o 0 (nfmtQ p o) := by
  intro B w b bs h
  have hb1 := h.b1
  have hlt := h.lt
  obtain ⟨K, A, S, T⟩ := o
  simp only at hk ⊢
  subst hk
  unfold nfmtQ
  simp only [OpV.val]
  obtain ⟨W, HW⟩ : ∃ W, Hid (W = w.alloc (.cells #[.int .i64 1, .int .i64 A, .string S, .string T] 68)) := ⟨_, rfl⟩
  have bW : Below w.heap.size w W := by rw [HW.out]; exact (Below.refl _ _).alloc (Nat.le_refl _) _
  have h1 := h.below bW
  have r1 : RowV W w.heap.size 4 (four (.int .i64 1) (.int .i64 A) (.string S) (.string T)) := by rw [HW.out]; exact RowV.four_new w _ _ _ _ _
  obtain ⟨x0, x1, x2, x3, x4⟩ := h1.row.cells5
  obtain ⟨g0, g1, g2, g3, g4⟩ := h1.row.open5
  obtain ⟨y0, y1, y2, y3⟩ := r1.cells4
  have bB : Below B w W := bW.mono (by omega)
  have hbo : b ≠ w.heap.size := by omega
  go_enter Tryz.func42, Tryz.ntmps42
  go_wp2_with fail
  rw [← HW.out]
  clear HW
  go_still_tail 11, (by kernel_rfl)
  change wpList _ _ _ _ _ W.drew
  have h2 : SheetAt B W.drew b bs p := h1.below ((Below.refl _ _).drew)
  have B2 : Below B w W.drew := bB.drew
  obtain ⟨V, HV⟩ : ∃ V, Hid (V = W.drew) := ⟨_, rfl⟩
  rw [← HV.out] at h2 B2 ⊢
  clear HV h1 x0 x1 x2 x3 x4 g0 g1 g2 g3 g4 y0 y1 y2 y3 r1 bB bW
  obtain ⟨x0, x1, x2, x3, x4⟩ := h2.row.cells5
  obtain ⟨g0, g1, g2, g3, g4⟩ := h2.row.open5
  go_wp2
  go_ret
  refine ⟨rfl, below_set5 B2 hb1 _ _ _ _ _, fun _ => ⟨none, 0, h2.row.set5 _ _ _ _ _, .inl rfl, rfl, rfl⟩⟩

section
variable {w : World} {p q : SheetV} {o : OpV} {a : Option Addr} {c : Nat} {E : Int}

set_option maxHeartbeats 3200000 in
theorem apply_ofN (lsn : Nat) (h : p.Ok w a) (f : p.Fits) (ho : o.Ok) (hc : chkB o = true) (hd : ChangeDoesN p o E q) :
    Calls Tryz.prog 20 #[p.val a c, o.val, .int .u64 lsn] w fun e w' => ∃ X, e = .returned (.tuple #[X, .int .i64 E]) ∧ Below w.heap.size w w' ∧
      (E = 0 → ∃ a' c', X = ({ q with lsn := lsn } : SheetV).val a' c' ∧ StrsFrom w.heap.size w' a' q.slots ∧ (a' = none ∧ c' = 0)) ∧ (E ≠ 0 → X = sheet0.val none 0) := by
  have HCK : Hid (∀ wx, Calls Tryz.prog 40 #[o.val] wx fun e w' => e = .returned (.int .i64 0) ∧ Below wx.heap.size wx w') := fun wx => by
    have := check_any o wx ho
    rw [show chkE o = 0 from by unfold chkE; rw [hc]; rfl] at this
    exact this
  have HCP : Hid (∀ wx, Below w.heap.size w wx → Calls Tryz.prog 41 #[p.val a c] wx fun e w' => ∃ b, e = .returned (p.val (some ⟨b, 0, none⟩) p.slots.length) ∧ wx.heap.size < b ∧ b < w'.heap.size ∧ RowV w' b p.slots.length (fun j => .string (p.slots.getD j ByteArray.empty)) ∧ Below wx.heap.size wx w') := fun wx hb => copyOf_any p a c wx (h.below hb)
  have HCO : Hid (∀ wx, Calls Tryz.prog 43 #[o.val] wx fun e w' => e = .returned o.val ∧ Below wx.heap.size wx w') := fun wx => copyOfOp_any o wx ho
  have HCH : Hid (ChangeDoesN p o E q) := hd
  clear hd
  unfold ChangeDoesN at HCH
  simp only [SheetV.val, OpV.val] at HCK HCP HCO HCH ⊢
  obtain ⟨W, HW⟩ : ∃ W, Hid (W = ((w.alloc (.cells #[.int .u32 p.num, .int .u64 p.lsn, .int .i64 p.kind, .string p.head, .slice a p.slots.length c] 63)).alloc (.cells #[.int .i64 o.kind, .int .i64 o.at', .string o.S, .string o.old] 68)).alloc (.cells #[.int .u32 0, .int .u64 0, .int .i64 0, .string ⟨#[]⟩, .slice none 0 0] 63)) := ⟨_, rfl⟩
  have hA : ApplyAt w W p o a c := by
    rw [HW.out]
    refine ⟨((RowV.five_new w _ _ _ _ _ _).below ((Below.refl _ _).alloc (Nat.le_refl _) _) (by simp)).below ((Below.refl _ _).alloc (Nat.le_refl _) _) (by simp; omega), ?_, ?_, (((Below.refl _ _).alloc (Nat.le_refl _) _).alloc (by simp) _).alloc (by simp; omega) _, by simp⟩
    · have := (RowV.four_new (w.alloc (.cells #[.int .u32 p.num, .int .u64 p.lsn, .int .i64 p.kind, .string p.head, .slice a p.slots.length c] 63)) (.int .i64 o.kind) (.int .i64 o.at') (.string o.S) (.string o.old) 68).below ((Below.refl _ _).alloc (Nat.le_refl _) (.cells #[.int .u32 0, .int .u64 0, .int .i64 0, .string ⟨#[]⟩, .slice none 0 0] 63)) (by simp)
      simpa using this
    · have := RowV.five_new ((w.alloc (.cells #[.int .u32 p.num, .int .u64 p.lsn, .int .i64 p.kind, .string p.head, .slice a p.slots.length c] 63)).alloc (.cells #[.int .i64 o.kind, .int .i64 o.at', .string o.S, .string o.old] 68)) (.int .u32 0) (.int .u64 0) (.int .i64 0) (.string ⟨#[]⟩) (.slice none 0 0) 63
      simpa using this
  go_enter Tryz.func20, Tryz.ntmps20
  go_wp2_with fail
  rw [← HW.out]
  clear HW
  refine (HCK.out _).mono ?_
  rintro e w1 ⟨rfl, b1⟩
  have h1 := hA.below b1 hA.lt
  clear b1 hA
  obtain ⟨x0, x1, x2, x3, x4⟩ := h1.page.cells5
  go_wp2_with fail
  refine (HCP.out _ h1.bel).mono ?_
  rintro e w2 ⟨b, rfl, hb1, hb2, hrow, b2⟩
  have hl1 := h1.lt
  have h2 := h1.below b2 h1.lt
  clear h1 x0 x1 x2 x3 x4
  obtain ⟨y0, y1, y2, y3⟩ := h2.op.cells4
  have hz2 := h2.lt
  have hz2' : w.heap.size + 1 < w2.heap.size := by omega
  go_wp2_with fail
  obtain ⟨W2, HW2⟩ : ∃ W2, Hid (W2 = w2.alloc (.cells #[.int .u32 p.num, .int .u64 p.lsn, .int .i64 p.kind, .string p.head, .slice (some ⟨b, 0, none⟩) p.slots.length p.slots.length] 63)) := ⟨_, rfl⟩
  have bA : Below w2.heap.size w2 W2 := by rw [HW2.out]; exact (Below.refl _ _).alloc (Nat.le_refl _) _
  have h3 := h2.below bA hz2
  have hs : SheetAt (w.heap.size + 3) W2 w2.heap.size b p := by
    refine ⟨by rw [HW2.out]; exact RowV.five_new w2 _ _ _ _ _ _, hrow.below bA hb2, hz2, by rw [HW2.out]; simp, by omega, by rw [HW2.out]; simp; omega, by omega⟩
  rw [← HW2.out]
  clear HW2 h2 y0 y1 y2 y3 bA hrow b2
  refine (HCO.out _).mono ?_
  rintro e w3 ⟨rfl, b3⟩
  have h4 := h3.below b3 h3.lt
  have hs4 := hs.below b3
  clear h3 hs b3
  go_wp2_with fail
  refine (HCH.out _ _ _ _ hs4).mono ?_
  rintro e w4 ⟨rfl, b4, hres⟩
  have h5 := h4.below b4 (Nat.le_refl _)
  have hz5 := Nat.lt_of_lt_of_le hs4.lt b4.size
  clear h4 hs4 b4
  obtain ⟨y0, y1, y2, y3, y4⟩ := h5.res.cells5
  obtain ⟨g0, g1, g2, g3, g4⟩ := h5.res.open5
  by_cases hE : E = 0
  · obtain ⟨a', c', hrow, hst, hcap⟩ := hres hE
    have Hcap := hidn hcap
    clear hcap hres
    subst hE
    obtain ⟨x0, x1, x2, x3, x4⟩ := hrow.cells5
    obtain ⟨f0, f1, f2, f3, f4⟩ := hrow.open5
    go_wp2_with fail
    obtain ⟨w5, HW5⟩ : ∃ w5, Hid (w5 = w4.setCell ⟨w2.heap.size, 1, none⟩ (.int .u64 lsn)) := ⟨_, rfl⟩
    have hs5 := (hst.set 1 (.int .u64 lsn)).from
    have hr5 := h5.res.set_other (b' := w2.heap.size) (k := 1) (by omega) (.int .u64 lsn)
    have hb5 := h5.bel.setCell (p := ⟨w2.heap.size, 1, none⟩) (by show w.heap.size ≤ w2.heap.size; omega) (.int .u64 lsn)
    rw [← HW5.out] at hs5 hr5 hb5 ⊢
    have hq := hr5.set5 (.int .u32 q.num) (.int .u64 lsn) (.int .i64 q.kind) (.string q.head) (.slice a' q.slots.length c')
    have bq := below_set5 hb5 (b := w.heap.size + 2) (by omega) (.int .u32 q.num) (.int .u64 lsn) (.int .i64 q.kind) (.string q.head) (.slice a' q.slots.length c')
    have sq := hs5.store5 (b := w.heap.size + 2) (by omega) (.int .u32 q.num) (.int .u64 lsn) (.int .i64 q.kind) (.string q.head) (.slice a' q.slots.length c')
    obtain ⟨WX, HWX⟩ : ∃ WX, Hid (WX = store5 w5 (w.heap.size + 2) (.int .u32 q.num) (.int .u64 lsn) (.int .i64 q.kind) (.string q.head) (.slice a' q.slots.length c')) := ⟨_, rfl⟩
    rw [← HWX.out] at hq bq
    rw [show (((((w5.setCell ⟨w.heap.size + 2, 0, none⟩ (.int .u32 q.num)).setCell ⟨w.heap.size + 2, 1, none⟩ (.int .u64 lsn)).setCell ⟨w.heap.size + 2, 2, none⟩ (.int .i64 q.kind)).setCell ⟨w.heap.size + 2, 3, none⟩ (.string q.head)).setCell ⟨w.heap.size + 2, 4, none⟩ (.slice a' q.slots.length c')) = WX from HWX.out.symm] at sq ⊢
    obtain ⟨r0, r1, r2, r3, r4⟩ := hq.cells5
    refine bodyPost_ret (v := .tuple #[.agg #[.int .u32 q.num, .int .u64 lsn, .int .i64 q.kind, .string q.head, .slice a' q.slots.length c'], .int .i64 0]) (by simp [results, Tryz.results20, go_sem, r0, r1, r2, r3, r4]) rfl ?_
    first | exact ⟨_, rfl, bq, a', ⟨c', rfl, sq.mono (by omega), Hcap.out⟩⟩ | exact ⟨_, rfl, bq, ⟨a', c', rfl, sq.mono (by omega), Hcap.out⟩⟩ | exact ⟨_, rfl, bq, fun _ => ⟨a', c', rfl, sq.mono (by omega), Hcap.out⟩, fun h => absurd rfl h⟩
  · have hE' : (E != 0) = true := by rw [bne_iff_ne]; exact hE
    clear hres
    go_wp2
    have hq := h5.res.set5 (.int .u32 0) (.int .u64 0) (.int .i64 0) (.string ⟨#[]⟩) (.slice none 0 0)
    have bq := below_set5 h5.bel (b := w.heap.size + 2) (by omega) (.int .u32 0) (.int .u64 0) (.int .i64 0) (.string ⟨#[]⟩) (.slice none 0 0)
    obtain ⟨WX, HWX⟩ : ∃ WX, Hid (WX = store5 w4 (w.heap.size + 2) (.int .u32 0) (.int .u64 0) (.int .i64 0) (.string ⟨#[]⟩) (.slice none 0 0)) := ⟨_, rfl⟩
    rw [← HWX.out] at hq bq
    obtain ⟨r0, r1, r2, r3, r4⟩ := hq.cells5
    rw [show (((((w4.setCell ⟨w.heap.size + 2, 0, none⟩ (.int .u32 0)).setCell ⟨w.heap.size + 2, 1, none⟩ (.int .u64 0)).setCell ⟨w.heap.size + 2, 2, none⟩ (.int .i64 0)).setCell ⟨w.heap.size + 2, 3, none⟩ (.string ⟨#[]⟩)).setCell ⟨w.heap.size + 2, 4, none⟩ (.slice none 0 0)) = WX from HWX.out.symm]
    refine bodyPost_ret (v := .tuple #[.agg #[.int .u32 0, .int .u64 0, .int .i64 0, .string ⟨#[]⟩, .slice none 0 0], .int .i64 E]) (by simp [results, Tryz.results20, go_sem, r0, r1, r2, r3, r4]) rfl ?_
    exact ⟨_, rfl, bq, fun h => absurd h hE, fun _ => rfl⟩


end

theorem applyZ_leaf {w : World} (num next : Nat) (hn : num < 4294967296) : Calls Tryz.prog 20 #[(blankN num).val none 0, (opFmtN 3 (num4 next)).val, .int .u64 1] w fun e w' => e = .returned (.tuple #[(leafN num 1 next []).val none 0, .int .i64 0]) ∧ Below w.heap.size w w' := by
  refine (apply_ofN 1 (SheetV.Fits.ok (blankN_fits hn) (.inl rfl)) (blankN_fits hn) (fmt_ok 3 _ (by omega) (by rw [num4_size]; omega)) (fmt_chk 3 _ (by omega) (by rw [num4_size]; omega)) (change_fmtN (fmt_ok 3 _ (by omega) (by rw [num4_size]; omega)) rfl)).mono ?_
  rintro e w' ⟨X, rfl, b, hX, _⟩
  obtain ⟨a', c', rfl, _, rfl, rfl⟩ := hX rfl
  exact ⟨rfl, b⟩

theorem applyZ_inner {w : World} (num level : Nat) (hn : num < 4294967296) : Calls Tryz.prog 20 #[(blankN num).val none 0, (opFmtN 4 (num1 level)).val, .int .u64 1] w fun e w' => e = .returned (.tuple #[(innerN num 1 level []).val none 0, .int .i64 0]) ∧ Below w.heap.size w w' := by
  refine (apply_ofN 1 (SheetV.Fits.ok (blankN_fits hn) (.inl rfl)) (blankN_fits hn) (fmt_ok 4 _ (by omega) (by rw [num1_size]; omega)) (fmt_chk 4 _ (by omega) (by rw [num1_size]; omega)) (change_fmtN (fmt_ok 4 _ (by omega) (by rw [num1_size]; omega)) rfl)).mono ?_
  rintro e w' ⟨X, rfl, b, hX, _⟩
  obtain ⟨a', c', rfl, _, rfl, rfl⟩ := hX rfl
  exact ⟨rfl, b⟩

end Go.Proofs.YtpllidadpcahbaaGreat

namespace Go.Proofs.YtpllidadpcahbaaGreat
open Go.RowKit Go.Sort
set_option linter.unusedVariables false
set_option linter.unusedSimpArgs false

structure SlV where
  g : Nat
  cap : Nat
  M : List EntV

def SlV.enc (s : SlV) : List Value := [.slice (some ⟨s.g, 0, none⟩) s.M.length s.cap]

theorem infoSl : (Tryz.prog.info? 22).map (fun i => (i.zero, i.size, i.bytes)) = some (some (.slice none 0 0), 1, 24) := by kernel_rfl

theorem rowSl : RowTy Tryz.prog 58 22 1 24 SlV.enc := by
  obtain ⟨i0, hi, hz0, hz1, hz2⟩ := info_parts infoSl
  exact ⟨Tryz.underlying58, ⟨i0, _, hi, hz0, hz1, hz2, rfl⟩, by omega, fun x => rfl, fun x u hu => by simp [SlV.enc] at hu; subst hu; rfl⟩

theorem row_sl {w : World} {B n : Nat} (s : SlV) (hn : n = s.M.length) (h : w.heap[B]? = some (.cells #[.slice (some ⟨s.g, 0, none⟩) n s.cap] 22 (0, 0))) : RowsAt 1 SlV.enc w (some ⟨B, 0, none⟩) [s] := by
  subst hn
  refine .inr ⟨B, 0, rfl, (Array.getElem?_eq_some_iff.1 h).1, fun i hi j v hv => ?_⟩
  have : i = 0 := by simp at hi; exact hi
  subst this
  unfold World.cell?
  simp only [h]
  simpa [SlV.enc] using hv

/-- The leaves: their row in block lg, each one's entries in a block of its own. -/
structure LvAt (w : World) (base lg lcap : Nat) (S : List SlV) : Prop where
  row : OwnR 1 SlV.enc 22 w base lg lcap S
  each : ∀ s ∈ S, OwnR 3 EntV.enc 28 w base s.g s.cap s.M

theorem own_apart {α β : Type} {k k' : Nat} {enc : α → List Value} {enc' : β → List Value} {te te' : TypeId} {w : World} {base base' g g' cap cap' : Nat} {M : List α} {M' : List β} (h : OwnR k enc te w base g cap M) (h' : OwnR k' enc' te' w base' g' cap' M') (hne : te ≠ te') : g ≠ g' := by
  rintro rfl
  obtain ⟨cur, _, h2, _⟩ := h.parts
  obtain ⟨cur', _, h2', _⟩ := h'.parts
  rw [h2] at h2'
  simp only [Option.some.injEq, Obj.cells.injEq] at h2'
  exact hne h2'.2.1

theorem grown_from {g : Nat} {W V w' : World} (b : Below W.heap.size W V) (h : V.grownBy w' (some g)) (hg : W.heap.size ≤ g) : Below W.heap.size W w' :=
  ⟨h.os.trans b.os, h.tape.trans b.tape, h.output.trans b.output, Nat.le_trans b.size h.size, fun k hk => (h.block k (Nat.lt_of_lt_of_le hk b.size) (by simp; omega)).trans (b.block k hk)⟩

section
variable {w w' : World} {base lg lcap : Nat} {S : List SlV}

theorem LvAt.below (h : LvAt w base lg lcap S) (k : Below w.heap.size w w') : LvAt w' base lg lcap S := ⟨h.row.below k, fun s hs => (h.each s hs).below k⟩

theorem LvAt.same (h : LvAt w base lg lcap S) (k : ∀ b, base ≤ b → b < w.heap.size → w'.heap[b]? = w.heap[b]?) : LvAt w' base lg lcap S :=
  ⟨h.row.same (k lg h.row.from h.row.lt), fun s hs => (h.each s hs).same (k s.g (h.each s hs).from (h.each s hs).lt)⟩

theorem LvAt.pushed (h : LvAt w base lg lcap S) {s : SlV} (hs : OwnR 3 EntV.enc 28 w base s.g s.cap s.M) {lg' lcap' : Nat} (hr : OwnR 1 SlV.enc 22 w' base lg' lcap' (S ++ [s])) (hg : w.grownBy w' (some lg)) : LvAt w' base lg' lcap' (S ++ [s]) := by
  refine ⟨hr, fun x hx => ?_⟩
  have hx' : OwnR 3 EntV.enc 28 w base x.g x.cap x.M := by
    rcases List.mem_append.1 hx with q | q
    · exact h.each x q
    · have : x = s := by simpa using q
      rw [this]; exact hs
  have hne := own_apart h.row hx' (by decide)
  exact hx'.same (hg.block x.g hx'.lt (by simpa using hne.symm))

theorem SlV.flat (S : List SlV) : S.flatMap SlV.enc = S.map fun s => Value.slice (some ⟨s.g, 0, none⟩) s.M.length s.cap := by
  induction S with
  | nil => rfl
  | cons x S ih => rw [List.flatMap_cons, ih]; rfl

theorem LvAt.cell (h : LvAt w base lg lcap S) {i : Nat} (hi : i < S.length) : w.cell? ⟨lg, i, none⟩ = some (.slice (some ⟨S[i].g, 0, none⟩) S[i].M.length S[i].cap) ∧ w.frozen? ⟨lg, i, none⟩ = false := by
  obtain ⟨cur, h1, h2, h3, h4, h5, h6⟩ := h.row.parts
  have hb : Blk w lg cur 22 := h2
  refine ⟨?_, hb.frozen i⟩
  have hr := OwnR.rows (k := 1) (enc := SlV.enc) (fun x => rfl) (by omega) h.row
  rcases hr with q | ⟨b, o, e1, _, hc⟩
  · rw [q] at hi; simp at hi
  · simp only [Option.some.injEq, Addr.mk.injEq, and_true] at e1
    obtain ⟨rfl, rfl⟩ := e1
    have := hc i hi 0 _ rfl
    simpa using this

/-- One of them is another one now. -/
theorem LvAt.set (h : LvAt w base lg lcap S) {i : Nat} (hi : i < S.length) {s : SlV} (hs : OwnR 3 EntV.enc 28 w base s.g s.cap s.M) : LvAt (w.setCell ⟨lg, i, none⟩ (.slice (some ⟨s.g, 0, none⟩) s.M.length s.cap)) base lg lcap (S.set i s) := by
  obtain ⟨cur, h1, h2, h3, h4, h5, h6⟩ := h.row.parts
  have hb : Blk w lg cur 22 := h2
  have hb2 := hb.set i (.slice (some ⟨s.g, 0, none⟩) s.M.length s.cap)
  have hk : ∀ b, b ≠ lg → (w.setCell ⟨lg, i, none⟩ (.slice (some ⟨s.g, 0, none⟩) s.M.length s.cap)).heap[b]? = w.heap[b]? := fun b hne => heap_setCell_other _ _ _ _ (by simpa using hne)
  refine ⟨⟨by rw [SlV.flat, List.length_map]; simp, .inr ⟨lg, lcap, cur.setIfInBounds i (.slice (some ⟨s.g, 0, none⟩) s.M.length s.cap), rfl, h1, hb2, by rw [List.length_set]; exact h3, h4, by simpa using h5, ?_⟩⟩, fun x hx => ?_⟩
  · rw [SlV.flat, List.map_set, ← SlV.flat, ← h6, Array.toList_setIfInBounds, List.length_set, List.take_set]
  · have hx' : OwnR 3 EntV.enc 28 w base x.g x.cap x.M := by
      rcases List.mem_or_eq_of_mem_set hx with q | q
      · exact h.each x q
      · rw [q]; exact hs
    exact hx'.same (hk x.g (own_apart h.row hx' (by decide)).symm)

theorem LvAt.swap (h : LvAt w base lg lcap S) (h1 : 1 < S.length) {s0 s1 : SlV} (e0 : S[0]? = some s0) (e1 : S[1]? = some s1) :
    LvAt ((w.setCell ⟨lg, 0, none⟩ (.slice (some ⟨s1.g, 0, none⟩) s1.M.length s1.cap)).setCell ⟨lg, 1, none⟩ (.slice (some ⟨s0.g, 0, none⟩) s0.M.length s0.cap)) base lg lcap ((S.set 0 s1).set 1 s0) := by
  have o0 := h.each s0 (List.mem_of_getElem? e0)
  have o1 := h.each s1 (List.mem_of_getElem? e1)
  have hne := own_apart h.row o0 (by decide)
  exact (h.set (i := 0) (by omega) o1).set (i := 1) (by rw [List.length_set]; exact h1) (o0.same (heap_setCell_other _ _ _ _ (by simpa using hne.symm)))

theorem lvs_swap {L : List EntV} {k N : Nat} {S : List SlV} {s0 s1 : SlV} (he : S.map SlV.M = (List.range N).map (chunk L k)) (h1 : 1 < N) (e0 : S[0]? = some s0) (e1 : S[1]? = some s1) : ((S.set 0 s1).set 1 s0).map SlV.M = (List.range N).map (lvs L k N 2) := by
  have hl : S.length = N := by have := congrArg List.length he; simpa using this
  have hg : ∀ i, i < N → (S[i]?).map SlV.M = some (chunk L k i) := fun i hi => by
    have := congrArg (fun l : List (List EntV) => l[i]?) he
    simp only [List.getElem?_map, List.getElem?_range hi] at this
    simpa using this
  have m0 : s0.M = chunk L k 0 := by have := hg 0 (by omega); rw [e0] at this; simpa using this
  have m1 : s1.M = chunk L k 1 := by have := hg 1 h1; rw [e1] at this; simpa using this
  apply List.ext_getElem?
  intro i
  rw [List.getElem?_map, List.getElem?_map]
  by_cases hi : i < N
  · rw [List.getElem?_range hi]
    by_cases h0 : i = 1
    · subst h0
      rw [List.getElem?_set_self (by rw [List.length_set]; omega)]
      simp [lvs, h1, m0]
    · rw [List.getElem?_set_ne (by omega)]
      by_cases h00 : i = 0
      · subst h00
        rw [List.getElem?_set_self (by omega)]
        simp [lvs, h1, m1]
      · rw [List.getElem?_set_ne (by omega), hg i hi]
        have : ¬ (i < 2) := by omega
        simp [lvs, this]
  · rw [List.getElem?_eq_none (by simp; omega), List.getElem?_eq_none (by simp; omega)]
    rfl

theorem lvs_rev {L : List EntV} {k N : Nat} {S : List SlV} {s : SlV} (he : S.map SlV.M = (List.range N).map (chunk L k)) (h1 : 1 < N) (hs : s.M = (chunk L k (N - 1)).reverse) : (S.set (N - 1) s).map SlV.M = (List.range N).map (lvs L k N 7) := by
  have hl : S.length = N := by have := congrArg List.length he; simpa using this
  have hg : ∀ i, i < N → (S[i]?).map SlV.M = some (chunk L k i) := fun i hi => by
    have := congrArg (fun l : List (List EntV) => l[i]?) he
    simp only [List.getElem?_map, List.getElem?_range hi] at this
    simpa using this
  apply List.ext_getElem?
  intro i
  rw [List.getElem?_map, List.getElem?_map]
  by_cases hi : i < N
  · rw [List.getElem?_range hi]
    by_cases h0 : i = N - 1
    · subst h0
      rw [List.getElem?_set_self (by omega)]
      have : N - 1 + 1 = N := by omega
      simp [lvs, h1, hs, this]
    · rw [List.getElem?_set_ne (by omega), hg i hi]
      have : ¬ (i + 1 = N) := by omega
      simp [lvs, this]
  · rw [List.getElem?_eq_none (by simp; omega), List.getElem?_eq_none (by simp; omega)]
    rfl

theorem lvs_plain {L : List EntV} {k N odd : Nat} {S : List SlV} (he : S.map SlV.M = (List.range N).map (chunk L k)) (h : N ≤ 1 ∨ (odd ≠ 2 ∧ odd ≠ 7)) : S.map SlV.M = (List.range N).map (lvs L k N odd) := by
  rw [he]
  apply List.map_congr_left
  intro i _
  unfold lvs
  rw [if_neg (by omega), if_neg (by omega)]

end

end Go.Proofs.YtpllidadpcahbaaGreat

namespace Go.Proofs.YtpllidadpcahbaaGreat
open Go.RowKit Go.Sort
set_option linter.unusedVariables false
set_option linter.unusedSimpArgs false

/-- What laid hands back. -/
structure LaidOut (w : World) (L : List EntV) (k odd : Nat) (r : Ending) (w' : World) : Prop where
  out : ∃ (p : Nat) (A : Nat → Prop) (P : PG) (l : LG) (d : DG) (N : Nat) (sp : Bool), IsCnt L.length k N ∧ sp = spB L k N odd ∧ r = .returned (.tuple #[.pointer (some ⟨p, 0, none⟩), .int .i64 N, .bool sp]) ∧ Sys w' p A P l d ∧ (∀ b, A b → w.heap.size ≤ b) ∧ P.F 3 = some ⟨rootP L k N odd sp, 1⟩ ∧ ∀ i, i < N → P.F (4 + i) = some ⟨leafP L k N odd sp i, 1⟩
  bel : Below w.heap.size w w'

/-- The pool, the log and the disk of a tree that is laid. -/
structure LdP (w W : World) (p : Nat) (A : Nat → Prop) (P : PG) (l : LG) (d : DG) : Prop where
  sys : Sys W p A P l d
  new : ∀ b, A b → w.heap.size ≤ b
  F : P.F = fun _ => none
  z : P.z = 0
  most : P.most = 100
  bel : Below w.heap.size w W

/-- The leaves that are there behind j rounds. -/
structure LdL (W wr : World) (L : List EntV) (k j lg lcap : Nat) (S : List SlV) : Prop where
  lv : LvAt wr W.heap.size lg lcap S
  eq : S.map SlV.M = (List.range j).map (chunk L k)
  bel : Below W.heap.size W wr

theorem LdL.len {W wr : World} {L : List EntV} {k j lg lcap : Nat} {S : List SlV} (h : LdL W wr L k j lg lcap S) : S.length = j := by
  have := congrArg List.length h.eq
  simpa using this

theorem LdL.below {W wr wx : World} {L : List EntV} {k j lg lcap : Nat} {S : List SlV} (h : LdL W wr L k j lg lcap S) (b : Below wr.heap.size wr wx) : LdL W wx L k j lg lcap S := ⟨h.lv.below b, h.eq, below_chain h.bel b⟩

theorem lv_drew {w : World} {base lg lcap : Nat} {S : List SlV} (h : LvAt w base lg lcap S) : LvAt w.drew base lg lcap S := h.below ((Below.refl _ _).drew)

theorem below_two {B : Nat} {w u : World} {b : Nat} (h : Below B w u) (hb : B ≤ b) (v0 v1 : Value) : Below B w ((u.setCell ⟨b, 0, none⟩ v0).setCell ⟨b, 1, none⟩ v1) :=
  (h.setCell (p := ⟨b, 0, none⟩) hb v0).setCell (p := ⟨b, 1, none⟩) hb v1

/-- Where the second loop stands: i leaves are put, the root has j children. -/
structure LpAt (W6 wr : World) (p : Nat) (A0 A : Nat → Prop) (P : PG) (l : LG) (d : DG) (L : List EntV) (k N odd : Nat) (sp : Bool) (lv rb : Nat) (rv : Value) (i j : Nat) : Prop where
  sys : Sys wr p A P l d
  mv : Moves A0 A W6 wr
  box : RowV wr rb 5 (five (.int .u32 3) (.int .u64 1) (.int .i64 4) (.string (num1 lv)) rv)
  rlo : W6.heap.size ≤ rb
  rhi : rb < wr.heap.size
  rA : ¬ A rb
  row : wr.ownsRow (rb + 1) 9 1 rv j (((kids L k N odd sp).take j).map fun x => Value.string x.bs)
  vA : ∀ b, rv.ownBlock = some b → ¬ A b
  F : ∀ n, P.F n = if 4 ≤ n ∧ n < 4 + i then some ⟨leafP L k N odd sp (n - 4), 1⟩ else none
  z : P.z = i
  most : P.most = 100

theorem ownsRow_same {w w' : World} {b : Nat} {t : TypeId} {s : Nat} {v : Value} {n : Nat} {xs : List Value} (h : w.ownsRow b t s v n xs) (k : ∀ g, v.ownBlock = some g → w'.heap[g]? = w.heap[g]?) : w'.ownsRow b t s v n xs := by
  obtain ⟨h1, h2⟩ := h
  refine ⟨h1, ?_⟩
  rcases h2 with q | ⟨g, cap, cur, e, e1, e2, e3⟩
  · exact .inl q
  · exact .inr ⟨g, cap, cur, e, e1, (k g (by rw [e]; rfl)).trans e2, e3⟩

theorem rowV_same {w w' : World} {b k : Nat} {f : Nat → Value} (h : RowV w b k f) (e : w'.heap[b]? = w.heap[b]?) : RowV w' b k f := fun j hj =>
  ⟨(World.cell?_of_block (w := w) (a := ⟨b, j, none⟩) e).trans (h j hj).1, (World.frozen?_of_block (w := w) (a := ⟨b, j, none⟩) e).trans (h j hj).2⟩

/-- A row of texts that the call has made, as a slice of texts. -/
theorem strs_of_own {w : World} {base : Nat} {v : Value} {M : List ByteArray} (h : w.ownsRow base 9 1 v M.length (M.map Value.string)) : ∃ a c, v = .slice a M.length c ∧ StrsAt w a M ∧ ∀ b o, a = some ⟨b, o, none⟩ → v.ownBlock = some b := by
  obtain ⟨h1, h2⟩ := h
  rcases h2 with ⟨e, e0⟩ | ⟨g, cap, cur, e, e1, e2, e3, e4, e5, e6⟩
  · exact ⟨none, 0, by rw [e, e0], .inl (List.eq_nil_of_length_eq_zero e0), fun b o q => by cases q⟩
  · refine ⟨some ⟨g, 0, none⟩, cap, e, .inr ⟨g, 0, rfl, (Array.getElem?_eq_some_iff.1 e2).1, fun i hi => ?_⟩, fun b o q => by cases q; rw [e]; rfl⟩
    have hg : (cur.toList.take (M.length * 1))[i]? = (M.map Value.string)[i]? := by rw [e6]
    rw [List.getElem?_take, if_pos (by omega), List.getElem?_map, List.getElem?_eq_getElem hi] at hg
    unfold World.cell?
    simp only [e2]
    simpa using hg

section
variable {W6 wr wx : World} {p : Nat} {A0 A : Nat → Prop} {P : PG} {l : LG} {d : DG} {L : List EntV} {k N odd : Nat} {sp : Bool} {lv rb : Nat} {rv : Value} {i j : Nat}

theorem LpAt.vlt (h : LpAt W6 wr p A0 A P l d L k N odd sp lv rb rv i j) {b : Nat} (hb : rv.ownBlock = some b) : rb < b ∧ b < wr.heap.size := by
  have := h.row.lt b hb
  exact ⟨by omega, this.2⟩

theorem LpAt.below (h : LpAt W6 wr p A0 A P l d L k N odd sp lv rb rv i j) (b : Below wr.heap.size wr wx) : LpAt W6 wx p A0 A P l d L k N odd sp lv rb rv i j :=
  ⟨h.sys.below b, h.mv.trans (Moves.of_kept (Kept.of_below b)), h.box.below b h.rhi, h.rlo, Nat.lt_of_lt_of_le h.rhi b.size, h.rA, ownsRow_same h.row fun g hg => b.block g (h.vlt hg).2, h.vA, h.F, h.z, h.most⟩

theorem LpAt.lvs (h : LpAt W6 wr p A0 A P l d L k N odd sp lv rb rv i j) {base lg lcap : Nat} {S : List SlV} (hA : ∀ b, A0 b → b < base) (hv : LvAt W6 base lg lcap S) : LvAt wr base lg lcap S :=
  hv.same fun b h1 h2 => h.mv.1.block b h2 fun q => by have := hA b q; omega

theorem LpAt.ents (h : LpAt W6 wr p A0 A P l d L k N odd sp lv rb rv i j) {gb go : Nat} {M : List EntV} (hA : ¬ A0 gb) (hb : gb < W6.heap.size) (hv : EntsAt W6 (some ⟨gb, go, none⟩) M) : EntsAt wr (some ⟨gb, go, none⟩) M := by
  rcases hv with q | ⟨b, o, e1, h1, hc⟩
  · exact .inl q
  · simp only [Option.some.injEq, Addr.mk.injEq, and_true] at e1
    obtain ⟨rfl, rfl⟩ := e1
    have hk := h.mv.1.block gb hb hA
    exact .inr ⟨gb, go, rfl, Nat.lt_of_lt_of_le hb h.mv.1.size, fun i hi j v hv => (World.cell?_of_block (w := W6) (a := ⟨gb, go + i * 3 + j, none⟩) hk).trans (hc i hi j v hv)⟩

/-- One more child. -/
theorem LpAt.pushed (h : LpAt W6 wr p A0 A P l d L k N odd sp lv rb rv i j) (hj : j < N) {w3 : World} {rv' : Value} (hr : w3.ownsRow (rb + 1) 9 1 rv' (j + 1) ((((kids L k N odd sp).take j).map fun x => Value.string x.bs) ++ [.string (ChildV.mk (kidP odd sp j) (kidE L k odd sp j)).bs])) (hg : wr.grownBy w3 rv.ownBlock) (hl : rv.ownBlock = rv'.ownBlock ∨ ∀ b, rv'.ownBlock = some b → wr.heap.size ≤ b) :
    LpAt W6 (w3.setCell ⟨rb, 4, none⟩ rv') p A0 A P l d L k N odd sp lv rb rv' i (j + 1) := by
  have hrl := h.rlo
  have hrh := h.rhi
  have hne : ∀ b, A b → some b ≠ rv.ownBlock := fun b hb q => h.vA b q.symm hb
  have hkA : ∀ b, A b → (w3.setCell ⟨rb, 4, none⟩ rv').heap[b]? = wr.heap[b]? := fun b hb => by
    have hbr : b ≠ rb := fun q => h.rA (q ▸ hb)
    rw [heap_setCell_other _ _ _ _ (by simpa using hbr)]
    exact hg.block b (h.sys.lt b hb) (hne b hb)
  have hb3 : w3.heap[rb]? = wr.heap[rb]? := hg.block rb hrh fun q => by have := (h.vlt q.symm).1; omega
  have hz : wr.heap.size ≤ (w3.setCell ⟨rb, 4, none⟩ rv').heap.size := by simpa using hg.size
  refine ⟨h.sys.same hkA hz, ⟨⟨?_, ?_, ?_, Nat.le_trans h.mv.1.size hz, fun b hb hA => ?_⟩, h.mv.2⟩, ?_, hrl, by simp; exact Nat.lt_of_lt_of_le hrh hg.size, h.rA, ?_, fun b hb hA => ?_, h.F, h.z, h.most⟩
  · have := ((Below.refl 0 w3).setCell (p := ⟨rb, 4, none⟩) (Nat.zero_le _) rv').os
    rw [this, hg.os]; exact h.mv.1.os
  · have := ((Below.refl 0 w3).setCell (p := ⟨rb, 4, none⟩) (Nat.zero_le _) rv').tape
    rw [this, hg.tape]; exact h.mv.1.tape
  · have := ((Below.refl 0 w3).setCell (p := ⟨rb, 4, none⟩) (Nat.zero_le _) rv').output
    rw [this, hg.output]; exact h.mv.1.output
  · have hbr : b ≠ rb := by omega
    rw [heap_setCell_other _ _ _ _ (by simpa using hbr), hg.block b (Nat.lt_of_lt_of_le hb h.mv.1.size) (fun q => by have := (h.vlt q.symm).1; omega)]
    exact h.mv.1.block b hb hA
  · exact (rowV_same h.box hb3).set4 rv'
  · have := ownsRow_setCell_below hr (a := ⟨rb, 4, none⟩) (by show rb < rb + 1; omega) rv'
    have e : (kids L k N odd sp).take (j + 1) = (kids L k N odd sp).take j ++ [⟨kidP odd sp j, kidE L k odd sp j⟩] := by
      rw [List.take_add_one, kids_at hj]; rfl
    rw [e, List.map_append]
    exact this
  · rcases hl with q | q
    · exact h.vA b (q.trans hb) hA
    · have := q b hb
      have := h.sys.lt b hA
      omega

/-- One more leaf. -/
theorem LpAt.put (h : LpAt W6 wr p A0 A P l d L k N odd sp lv rb rv i j) {A' : Nat → Prop} (hs : Sys wx p A' (putP P (leafP L k N odd sp i)) l d) (hm : Moves A A' wr wx) : LpAt W6 wx p A0 A' (putP P (leafP L k N odd sp i)) l d L k N odd sp lv rb rv (i + 1) j := by
  have k1 := hm.off h.rhi h.rA
  have hF : P.F (4 + i) = none := by rw [h.F, if_neg (by omega)]
  refine ⟨hs, h.mv.trans hm, rowV_same h.box k1.1, h.rlo, Nat.lt_of_lt_of_le h.rhi hm.1.size, k1.2, ownsRow_same h.row fun g hg => (hm.off (h.vlt hg).2 (h.vA g hg)).1, fun b hb => (hm.off (h.vlt hb).2 (h.vA b hb)).2, fun n => ?_, ?_, h.most⟩
  · show setFr P.F (4 + i) ⟨leafP L k N odd sp i, sinceF (oldS P (4 + i)) 1⟩ n = _
    have ho : oldS P (4 + i) = 0 := by unfold oldS; rw [hF]
    unfold setFr
    by_cases q : n = 4 + i
    · subst q
      rw [if_pos rfl, if_pos (by omega), ho, Nat.add_sub_cancel_left]
      rfl
    · rw [if_neg q, h.F]
      by_cases r : 4 ≤ n ∧ n < 4 + i
      · rw [if_pos r, if_pos (by omega)]
      · rw [if_neg r, if_neg (by omega)]
  · show (if (P.F (4 + i)).isSome = true then P.z else P.z + 1) = i + 1
    rw [hF, h.z]; rfl

end

end Go.Proofs.YtpllidadpcahbaaGreat

namespace Go.Proofs.YtpllidadpcahbaaGreat
open Go.RowKit Go.Sort
set_option linter.unusedVariables false
set_option linter.unusedSimpArgs false

/-- The leaf's box behind m items. -/
structure XbAt (K1 u : World) (xb i nx : Nat) (Y : List EntV) (m : Nat) (xv : Value) : Prop where
  box : RowV u xb 5 (five (.int .u32 ((4 + i : Nat) : Int)) (.int .u64 1) (.int .i64 3) (.string (num4 nx)) xv)
  row : u.ownsRow (xb + 1) 9 1 xv m (((live Y).take m).map fun x => Value.string x.bs)
  bel : Below xb K1 u
  lt : xb < u.heap.size

theorem kept_grown {u0 V w2 : World} {row : Option Nat} (b : Below u0.heap.size u0 V) (g : V.grownBy w2 row) : Kept (fun k => row = some k) u0 w2 :=
  ⟨g.os.trans b.os, g.tape.trans b.tape, g.output.trans b.output, Nat.le_trans b.size g.size, fun k hk hs => (g.block k (Nat.lt_of_lt_of_le hk b.size) fun q => hs q.symm).trans (b.block k hk)⟩

section
variable {K1 u u' : World} {xb i nx : Nat} {Y : List EntV} {m : Nat} {xv xv' : Value}

theorem XbAt.below (h : XbAt K1 u xb i nx Y m xv) (b : Below u.heap.size u u') : XbAt K1 u' xb i nx Y m xv :=
  ⟨h.box.below b h.lt, ownsRow_same h.row fun g hg => b.block g (h.row.lt g hg).2, ⟨b.os.trans h.bel.os, b.tape.trans h.bel.tape, b.output.trans h.bel.output, Nat.le_trans h.bel.size b.size, fun k hk => (b.block k (Nat.lt_trans hk h.lt)).trans (h.bel.block k hk)⟩, Nat.lt_of_lt_of_le h.lt b.size⟩

theorem XbAt.own (h : XbAt K1 u xb i nx Y m xv) {V : World} (b : Below u.heap.size u V) : V.ownsRow (xb + 1) 9 1 xv m (((live Y).take m).map fun x => Value.string x.bs) := (h.below b).row

theorem XbAt.pushed (h : XbAt K1 u xb i nx Y m xv) {w2 : World} (k : Kept (fun k => xv.ownBlock = some k) u w2) {y : EntV} (hm : m < Y.length) (hy : Y[m] = y) (hr : w2.ownsRow (xb + 1) 9 1 xv' (m + 1) ((((live Y).take m).map fun x => Value.string x.bs) ++ [.string (ItemV.mk y true).bs])) :
    XbAt K1 (w2.setCell ⟨xb, 4, none⟩ xv') xb i nx Y (m + 1) xv' := by
  have hne : ∀ b, b ≤ xb → ¬ xv.ownBlock = some b := fun b hb q => by have := (h.row.lt b q).1; omega
  have e1 : w2.heap[xb]? = u.heap[xb]? := k.block xb h.lt (hne xb (Nat.le_refl _))
  refine ⟨(rowV_same h.box e1).set4 xv', ?_, ?_, by simp; exact Nat.lt_of_lt_of_le h.lt k.size⟩
  · have := ownsRow_setCell_below hr (a := ⟨xb, 4, none⟩) (by show xb < xb + 1; omega) xv'
    have e : (live Y).take (m + 1) = (live Y).take m ++ [⟨y, true⟩] := by
      rw [List.take_add_one]
      unfold live
      rw [List.getElem?_map, List.getElem?_eq_getElem hm, hy]; rfl
    rw [e, List.map_append]
    exact this
  · have b2 : Below xb K1 w2 := ⟨k.os.trans h.bel.os, k.tape.trans h.bel.tape, k.output.trans h.bel.output, Nat.le_trans h.bel.size k.size, fun b hb => (k.block b (Nat.lt_trans hb h.lt) (hne b (by omega))).trans (h.bel.block b hb)⟩
    exact b2.setCell (p := ⟨xb, 4, none⟩) (Nat.le_refl _) xv'

theorem XbAt.new (K : World) (h : xb = K.heap.size) : XbAt K (K.alloc (.cells #[.int .u32 ((4 + i : Nat) : Int), .int .u64 1, .int .i64 3, .string (num4 nx), .slice none 0 0] 63)) xb i nx Y 0 (.slice none 0 0) := by
  subst h
  exact ⟨RowV.five_new _ _ _ _ _ _ _, World.ownsRow_nil _ _ _ _, (Below.refl _ _).alloc (Nat.le_refl _) _, by simp⟩

end

section
variable {W6 wr : World} {p : Nat} {A0 A : Nat → Prop} {P : PG} {l : LG} {d : DG} {L : List EntV} {k N odd : Nat} {sp : Bool} {lv rb : Nat} {rv : Value} {i j : Nat} {ra : Option Addr} {rc : Nat}

theorem lp_putLeaf (h : LpAt W6 wr p A0 A P l d L k N odd sp lv rb rv i j) (hL : SortedE L) (hk : k ≤ 8) (hi : i < 24) (nx : Nat) (hnx : nx = nextN N odd sp i) (Y : List EntV) (hY : Y = lvs L k N odd i) {xb xc : Nat} {xa : Option Addr} (hr : wr.ownsRow (xb + 1) 9 1 (.slice xa Y.length xc) Y.length ((live Y).map fun x => Value.string x.bs)) (hoff : ∀ b, A b → b ≤ xb) :
    Calls Tryz.prog 27 #[.pointer (some ⟨p, 0, none⟩), .agg #[.int .u32 (4 + (i : Int)), .int .u64 1, .int .i64 3, .string (num4 nx), .slice xa Y.length xc]] wr fun r w' => r = .returned (.int .i64 0) ∧ ∃ A2 P2, LpAt W6 w' p A0 A2 P2 l d L k N odd sp lv rb rv (i + 1) j := by
  subst hnx hY
  have hfit := leafP_fits (N := N) (odd := odd) (sp := sp) hL hk hi
  have hll : ((live (lvs L k N odd i)).map ItemV.bs).length = (lvs L k N odd i).length := by unfold live; simp
  have hlt := hr.lt
  rw [show ((live (lvs L k N odd i)).map fun x => Value.string x.bs) = ((live (lvs L k N odd i)).map ItemV.bs).map Value.string by rw [List.map_map]; rfl, ← hll] at hr
  obtain ⟨a, c, e, hs, hown⟩ := strs_of_own hr
  simp only [Value.slice.injEq, true_and] at e
  obtain ⟨rfl, rfl⟩ := e
  have hX : (leafP L k N odd sp i).Ok wr xa := SheetV.Fits.ok hfit hs
  have hF : P.F (leafP L k N odd sp i).num = none := by show P.F (4 + i) = none; rw [h.F, if_neg (by omega)]
  have hz := h.z
  have hmost := h.most
  have := poolPut_any (P1 := P) (l1 := l) (d1 := d) h.sys (leafP L k N odd sp i) xa xc hX (fun b o e1 hA => by
      have h1 := hown b o e1
      rw [hll] at h1
      have := (hlt b h1).1
      have := hoff b hA
      omega) (by show 1 ≤ 4 + i; omega) (by show 4 + i ≤ 2048; omega) ((encE_fits hX).2 hfit) (fun _ => ⟨room_roomy (by omega) (by omega), hF⟩) (fun hne => absurd hF hne) (by omega)
  have hv : (leafP L k N odd sp i).val xa xc = .agg #[.int .u32 (4 + (i : Int)), .int .u64 1, .int .i64 3, .string (num4 (nextN N odd sp i)), .slice xa (lvs L k N odd i).length xc] := by
    show Value.agg #[.int .u32 ((4 + i : Nat) : Int), .int .u64 ((1 : Nat) : Int), .int .i64 3, .string (num4 (nextN N odd sp i)), .slice xa ((live (lvs L k N odd i)).map ItemV.bs).length xc] = _
    rw [hll, show ((4 + i : Nat) : Int) = 4 + (i : Int) by omega]; rfl
  rw [hv] at this
  refine this.mono ?_
  rintro r w' ⟨rfl, A2, hs2, hm2⟩
  exact ⟨rfl, A2, _, h.put hs2 hm2⟩

theorem lp_putRoot (h : LpAt W6 wr p A0 A P l d L k N odd sp lv rb (.slice ra N rc) N N) (hL : SortedE L) (hN : N ≤ 24) (hlv : lv = if sp = true ∧ odd = 4 then 2 else 1) :
    Calls Tryz.prog 27 #[.pointer (some ⟨p, 0, none⟩), .agg #[.int .u32 3, .int .u64 1, .int .i64 4, .string (num1 lv), .slice ra N rc]] wr fun r w' => r = .returned (.int .i64 0) ∧ ∃ A2 P2, Sys w' p A2 P2 l d ∧ Moves A0 A2 W6 w' ∧ P2.F 3 = some ⟨rootP L k N odd sp, 1⟩ ∧ ∀ i, i < N → P2.F (4 + i) = some ⟨leafP L k N odd sp i, 1⟩ := by
  subst hlv
  have hfit := rootP_fits (k := k) (odd := odd) (sp := sp) hL hN
  have hll : ((kids L k N odd sp).map ChildV.bs).length = N := by rw [List.length_map, kids_length]
  have hr := h.row
  rw [List.take_of_length_le (by rw [kids_length]; omega), show ((kids L k N odd sp).map fun x => Value.string x.bs) = ((kids L k N odd sp).map ChildV.bs).map Value.string by rw [List.map_map]; rfl] at hr
  have hr2 : wr.ownsRow (rb + 1) 9 1 (.slice ra ((kids L k N odd sp).map ChildV.bs).length rc) ((kids L k N odd sp).map ChildV.bs).length (((kids L k N odd sp).map ChildV.bs).map Value.string) := by rw [hll]; exact hr
  obtain ⟨a, c, e, hs, hown⟩ := strs_of_own hr2
  simp only [Value.slice.injEq, true_and] at e
  obtain ⟨rfl, rfl⟩ := e
  have hX : (rootP L k N odd sp).Ok wr ra := SheetV.Fits.ok hfit hs
  have hF : P.F (rootP L k N odd sp).num = none := by show P.F 3 = none; rw [h.F, if_neg (by omega)]
  have hz := h.z
  have hmost := h.most
  have := poolPut_any (P1 := P) (l1 := l) (d1 := d) h.sys (rootP L k N odd sp) ra rc hX (fun b o e1 hA => by
      have h1 := hown b o e1
      rw [hll] at h1
      exact h.vA b h1 hA) (by show 1 ≤ 3; omega) (by show 3 ≤ 2048; omega) ((encE_fits hX).2 hfit) (fun _ => ⟨room_roomy (by omega) (by omega), hF⟩) (fun hne => absurd hF hne) (by omega)
  have hv : (rootP L k N odd sp).val ra rc = .agg #[.int .u32 3, .int .u64 1, .int .i64 4, .string (num1 (if sp = true ∧ odd = 4 then 2 else 1)), .slice ra N rc] := by
    show Value.agg #[.int .u32 ((3 : Nat) : Int), .int .u64 ((1 : Nat) : Int), .int .i64 4, .string (num1 (if sp = true ∧ odd = 4 then 2 else 1)), .slice ra ((kids L k N odd sp).map ChildV.bs).length rc] = _
    rw [hll]; rfl
  rw [hv] at this
  refine this.mono ?_
  rintro r w' ⟨rfl, A2, hs2, hm2⟩
  refine ⟨rfl, A2, _, hs2, h.mv.trans hm2, ?_, fun i hi => ?_⟩
  · show setFr P.F 3 ⟨rootP L k N odd sp, sinceF (oldS P 3) 1⟩ 3 = _
    have ho : oldS P 3 = 0 := by unfold oldS; rw [show P.F 3 = none from hF]
    unfold setFr
    rw [if_pos rfl, ho]; rfl
  · show setFr P.F 3 ⟨rootP L k N odd sp, sinceF (oldS P 3) 1⟩ (4 + i) = _
    unfold setFr
    rw [if_neg (by omega), h.F, if_pos (by omega), Nat.add_sub_cancel_left]

end

end Go.Proofs.YtpllidadpcahbaaGreat
