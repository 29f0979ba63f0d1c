/-
  page.Apply, over what page.change does.
-/
import Derived.Test.YtgkfdakieebnmaaGreatShInsertJ
import Derived.StillTailTactics
import Derived.Test.YtgkfdakieebnmaaGreatProg
import Derived.Shelf.Slices.Delete
import Derived.Shelf.Slices.Cells
set_option linter.unusedVariables false
set_option linter.unusedSimpArgs false
namespace Go.Proofs.YtgkfdakieebnmaaGreat
open Go.RowKit Go.Sort

def StrsNot (B b : Nat) (w : World) (a : Option Addr) (L : List ByteArray) : Prop :=
  L = [] ∨ ∃ bs o, a = some ⟨bs, o, none⟩ ∧ bs ≠ b ∧ B ≤ bs ∧ bs < w.heap.size ∧ ∀ i (hi : i < L.length), w.cell? ⟨bs, o + i, none⟩ = some (.string L[i])

theorem StrsNot.set {B b : Nat} {w : World} {a : Option Addr} {L : List ByteArray} (h : StrsNot B b w a L) (i : Nat) (v : Value) : StrsNot B b (w.setCell ⟨b, i, none⟩ v) a L := by
  rcases h with h | ⟨bs, o, e, h1, h2, hb, hc⟩
  · exact .inl h
  · refine .inr ⟨bs, o, e, h1, h2, by simpa using hb, fun j hj => ?_⟩
    rw [World.cell?_setCell_other _ _ _ _ (by intro q; exact h1 (congrArg Addr.block q).symm)]
    exact hc j hj

theorem StrsNot.from {B b : Nat} {w : World} {a : Option Addr} {L : List ByteArray} (h : StrsNot B b w a L) : StrsFrom B w a L := by
  rcases h with h | ⟨bs, o, e, h1, h2, hb, hc⟩
  · exact .inl h
  · exact .inr ⟨bs, o, e, h2, hb, hc⟩

theorem StrRow.not {B b bs : Nat} {w : World} {L : List ByteArray} (h : StrRow w bs L) (h1 : bs ≠ b) (h2 : B ≤ bs) (h3 : bs < w.heap.size) : StrsNot B b w (some ⟨bs, 0, none⟩) L :=
  .inr ⟨bs, 0, rfl, h1, h2, h3, fun i hi => by rw [Nat.zero_add]; exact h.cell hi⟩

def ChangeDoes (p : SheetV) (o : OpV) (E : Int) (q : SheetV) : Prop :=
  ∀ B w b bs, SheetAt B w b bs p → Calls Tryz.prog 54 #[.pointer (some ⟨b, 0, none⟩), o.val] w fun e w' => e = .returned (.int .i64 E) ∧ Below B w w' ∧
    (E = 0 → ∃ a' c', RowV w' b 5 (five (.int .u32 q.num) (.int .u64 q.lsn) (.int .i64 q.kind) (.string q.head) (.slice a' q.slots.length c')) ∧ StrsNot B b w' a' q.slots)

structure ApplyAt (w wx : World) (p : SheetV) (o : OpV) (a : Option Addr) (c : Nat) : Prop where
  page : RowV wx w.heap.size 5 (five (.int .u32 p.num) (.int .u64 p.lsn) (.int .i64 p.kind) (.string p.head) (.slice a p.slots.length c))
  op : RowV wx (w.heap.size + 1) 4 (four (.int .i64 o.kind) (.int .i64 o.at') (.string o.S) (.string o.old))
  res : RowV wx (w.heap.size + 2) 5 (five (.int .u32 0) (.int .u64 0) (.int .i64 0) (.string ⟨#[]⟩) (.slice none 0 0))
  bel : Below w.heap.size w wx
  lt : w.heap.size + 3 ≤ wx.heap.size

theorem ApplyAt.below {w wx wy : World} {p : SheetV} {o : OpV} {a : Option Addr} {c B : Nat} (h : ApplyAt w wx p o a c) (k : Below B wx wy) (hB : w.heap.size + 3 ≤ B) : ApplyAt w wy p o a c :=
  ⟨h.page.below k (by omega), h.op.below k (by omega), h.res.below k (by omega), h.bel.trans (k.mono (by omega)), Nat.le_trans h.lt k.size⟩

section
variable {w : World} {p q : SheetV} {o : OpV} {a : Option Addr} {c : Nat} {E : Int}

end
end Go.Proofs.YtgkfdakieebnmaaGreat

namespace Go.Proofs.YtgkfdakieebnmaaGreat
open Go.RowKit Go.Sort

theorem insE_zero {p : SheetV} {o : OpV} (h : insE p o = 0) : o.at' ≤ p.slots.length ∧ p.slots.length < 64 ∧ p.head.size + slotSum p.slots + (2 + o.S.size) ≤ 485 := by
  unfold insE at h
  split at h
  · cases h
  split at h
  · cases h
  split at h
  · cases h
  · omega

set_option maxHeartbeats 1600000 in
set_option maxRecDepth 60000 in
theorem change_ins {p : SheetV} {o : OpV} (f : p.Fits) (ho : o.Ok) (hk : o.kind = 2) (ha : 0 ≤ o.at') : ChangeDoes p o (insE p o) { p with slots := insL p.slots o.at'.toNat o.S } := by
  intro B w b bs h
  have hb1 := h.b1
  have hlt := h.lt
  have HI : Hid (∀ wx, SheetAt B wx b bs p → Calls Tryz.prog 115 #[.pointer (some ⟨b, 0, none⟩), o.val] wx fun e w' => e = .returned (.int .i64 (insE p o)) ∧ Below B wx w' ∧
      (insE p o = 0 → ∃ bs' c, RowV w' b 5 (five (.int .u32 p.num) (.int .u64 p.lsn) (.int .i64 p.kind) (.string p.head) (.slice (some ⟨bs', 0, none⟩) (p.slots.length + 1) c)) ∧ StrRow w' bs' (insL p.slots o.at'.toNat o.S) ∧ B ≤ bs' ∧ bs' < w'.heap.size ∧ bs' ≠ b)) := fun wx hx => insert_any hx f ho ha
  have HZ : Hid (insE p o = 0 → o.at'.toNat ≤ p.slots.length) := fun e => by have := insE_zero e; omega
  generalize insE p o = E at *
  obtain ⟨K, A, S, T⟩ := o
  simp only at hk ha HI HZ ⊢
  subst hk
  generalize A.toNat = i at *
  simp only [OpV.val] at HI ⊢
  obtain ⟨W, HW⟩ : ∃ W, Hid (W = w.alloc (.cells #[.int .i64 2, .int .i64 A, .string S, .string T] 58)) := ⟨_, rfl⟩
  have bW : Below w.heap.size w W := by rw [HW.out]; exact (Below.refl _ _).alloc (Nat.le_refl _) _
  have h1 := h.below bW
  go_enter Tryz.func54, Tryz.ntmps54
  go_wp2_with fail
  rw [← HW.out]
  clear HW
  refine (HI.out _ h1).mono ?_
  rintro e w1 ⟨rfl, b1, hz⟩
  go_wp2
  go_ret
  refine ⟨rfl, (bW.mono (by omega)).trans b1, fun hE => ?_⟩
  obtain ⟨bs', c', q1, q2, q3, q4, q5⟩ := hz hE
  exact ⟨some ⟨bs', 0, none⟩, c', by rw [insL_length _ _ _ (HZ.out hE)]; exact q1, q2.not q5 q3 q4⟩

end Go.Proofs.YtgkfdakieebnmaaGreat

namespace Go.Proofs.YtgkfdakieebnmaaGreat
open Go.RowKit Go.Sort

theorem hido {p : Prop} (h : p) : Hid p := h

def ChangeDoesO (p : SheetV) (o : OpV) (E : Int) (q : SheetV) : Prop :=
  ∀ B w b bs, SheetAt B w b bs p → Calls Tryz.prog 54 #[.pointer (some ⟨b, 0, none⟩), o.val] w fun e w' => e = .returned (.int .i64 E) ∧ Below B w w' ∧
    (E = 0 → ∃ a' c', RowV w' b 5 (five (.int .u32 q.num) (.int .u64 q.lsn) (.int .i64 q.kind) (.string q.head) (.slice a' q.slots.length c')) ∧ StrsNot B b w' a' q.slots ∧ (∀ g k, a' = some ⟨g, k, none⟩ → B ≤ g ∧ g < w'.heap.size ∧ g ≠ b))

theorem ChangeDoes.own {p q : SheetV} {o : OpV} {E : Int} (h : ChangeDoes p o E q) (hq : q.slots ≠ []) : ChangeDoesO p o E q := by
  intro B w b bs hs
  refine (h B w b bs hs).mono ?_
  rintro e w' ⟨rfl, b1, hz⟩
  refine ⟨rfl, b1, fun hE => ?_⟩
  obtain ⟨a', c', hr, hn⟩ := hz hE
  refine ⟨a', c', hr, hn, fun g k e => ?_⟩
  rcases hn with h0 | ⟨bs', o', e', h1, h2, h3, _⟩
  · exact absurd h0 hq
  · rw [e] at e'
    simp only [Option.some.injEq, Addr.mk.injEq, and_true] at e'
    rw [e'.1]
    exact ⟨h2, h3, h1⟩

section
variable {w : World} {p q : SheetV} {o : OpV} {a : Option Addr} {c : Nat} {E : Int}

set_option maxHeartbeats 3200000 in
set_option maxRecDepth 60000 in
theorem apply_ofO (lsn : Nat) (h : p.Ok w a) (f : p.Fits) (ho : o.Ok) (hc : chkB o = true) (hd : ChangeDoesO p o E q) :
    Calls Tryz.prog 20 #[p.val a c, o.val, .int .u64 lsn] w fun e w' => ∃ X, e = .returned (.tuple #[X, .int .i64 E]) ∧ Below w.heap.size w w' ∧
      (E = 0 → ∃ a' c', X = ({ q with lsn := lsn } : SheetV).val a' c' ∧ StrsFrom w.heap.size w' a' q.slots ∧ (∀ g k, a' = some ⟨g, k, none⟩ → w.heap.size ≤ g ∧ g < w'.heap.size)) ∧ (E ≠ 0 → X = sheet0.val none 0) := by
  have HCK : Hid (∀ wx, Calls Tryz.prog 52 #[o.val] wx fun e w' => e = .returned (.int .i64 0) ∧ Below wx.heap.size wx w') := fun wx => by
    have := check_any o wx ho
    rw [show chkE o = 0 from by unfold chkE; rw [hc]; rfl] at this
    exact this
  have HCP : Hid (∀ wx, Below w.heap.size w wx → Calls Tryz.prog 53 #[p.val a c] wx fun e w' => ∃ b, e = .returned (p.val (some ⟨b, 0, none⟩) p.slots.length) ∧ wx.heap.size < b ∧ b < w'.heap.size ∧ RowV w' b p.slots.length (fun j => .string (p.slots.getD j ByteArray.empty)) ∧ Below wx.heap.size wx w') := fun wx hb => copyOf_any p a c wx (h.below hb)
  have HCO : Hid (∀ wx, Calls Tryz.prog 55 #[o.val] wx fun e w' => e = .returned o.val ∧ Below wx.heap.size wx w') := fun wx => copyOfOp_any o wx ho
  have HCH : Hid (ChangeDoesO p o E q) := hd
  clear hd
  unfold ChangeDoesO at HCH
  simp only [SheetV.val, OpV.val] at HCK HCP HCO HCH ⊢
  obtain ⟨W, HW⟩ : ∃ W, Hid (W = ((w.alloc (.cells #[.int .u32 p.num, .int .u64 p.lsn, .int .i64 p.kind, .string p.head, .slice a p.slots.length c] 52)).alloc (.cells #[.int .i64 o.kind, .int .i64 o.at', .string o.S, .string o.old] 58)).alloc (.cells #[.int .u32 0, .int .u64 0, .int .i64 0, .string ⟨#[]⟩, .slice none 0 0] 52)) := ⟨_, rfl⟩
  have hA : ApplyAt w W p o a c := by
    rw [HW.out]
    refine ⟨((RowV.five_new w _ _ _ _ _ _).below ((Below.refl _ _).alloc (Nat.le_refl _) _) (by simp)).below ((Below.refl _ _).alloc (Nat.le_refl _) _) (by simp; omega), ?_, ?_, (((Below.refl _ _).alloc (Nat.le_refl _) _).alloc (by simp) _).alloc (by simp; omega) _, by simp⟩
    · have := (RowV.four_new (w.alloc (.cells #[.int .u32 p.num, .int .u64 p.lsn, .int .i64 p.kind, .string p.head, .slice a p.slots.length c] 52)) (.int .i64 o.kind) (.int .i64 o.at') (.string o.S) (.string o.old) 58).below ((Below.refl _ _).alloc (Nat.le_refl _) (.cells #[.int .u32 0, .int .u64 0, .int .i64 0, .string ⟨#[]⟩, .slice none 0 0] 52)) (by simp)
      simpa using this
    · have := RowV.five_new ((w.alloc (.cells #[.int .u32 p.num, .int .u64 p.lsn, .int .i64 p.kind, .string p.head, .slice a p.slots.length c] 52)).alloc (.cells #[.int .i64 o.kind, .int .i64 o.at', .string o.S, .string o.old] 58)) (.int .u32 0) (.int .u64 0) (.int .i64 0) (.string ⟨#[]⟩) (.slice none 0 0) 52
      simpa using this
  go_enter Tryz.func20, Tryz.ntmps20
  go_wp2_with fail
  rw [← HW.out]
  clear HW
  refine (HCK.out _).mono ?_
  rintro e w1 ⟨rfl, b1⟩
  have h1 := hA.below b1 hA.lt
  clear b1 hA
  obtain ⟨x0, x1, x2, x3, x4⟩ := h1.page.cells5
  go_wp2_with fail
  refine (HCP.out _ h1.bel).mono ?_
  rintro e w2 ⟨b, rfl, hb1, hb2, hrow, b2⟩
  have hl1 := h1.lt
  have h2 := h1.below b2 h1.lt
  clear h1 x0 x1 x2 x3 x4
  obtain ⟨y0, y1, y2, y3⟩ := h2.op.cells4
  have hz2 := h2.lt
  have hz2' : w.heap.size + 1 < w2.heap.size := by omega
  go_wp2_with fail
  obtain ⟨W2, HW2⟩ : ∃ W2, Hid (W2 = w2.alloc (.cells #[.int .u32 p.num, .int .u64 p.lsn, .int .i64 p.kind, .string p.head, .slice (some ⟨b, 0, none⟩) p.slots.length p.slots.length] 52)) := ⟨_, rfl⟩
  have bA : Below w2.heap.size w2 W2 := by rw [HW2.out]; exact (Below.refl _ _).alloc (Nat.le_refl _) _
  have h3 := h2.below bA hz2
  have hs : SheetAt (w.heap.size + 3) W2 w2.heap.size b p := by
    refine ⟨by rw [HW2.out]; exact RowV.five_new w2 _ _ _ _ _ _, hrow.below bA hb2, hz2, by rw [HW2.out]; simp, by omega, by rw [HW2.out]; simp; omega, by omega⟩
  rw [← HW2.out]
  clear HW2 h2 y0 y1 y2 y3 bA hrow b2
  refine (HCO.out _).mono ?_
  rintro e w3 ⟨rfl, b3⟩
  have h4 := h3.below b3 h3.lt
  have hs4 := hs.below b3
  clear h3 hs b3
  go_wp2_with fail
  refine (HCH.out _ _ _ _ hs4).mono ?_
  rintro e w4 ⟨rfl, b4, hres⟩
  have h5 := h4.below b4 (Nat.le_refl _)
  have hz5 := Nat.lt_of_lt_of_le hs4.lt b4.size
  clear h4 hs4 b4
  obtain ⟨y0, y1, y2, y3, y4⟩ := h5.res.cells5
  obtain ⟨g0, g1, g2, g3, g4⟩ := h5.res.open5
  by_cases hE : E = 0
  · obtain ⟨a', c', hrow, hst, hcap⟩ := hres hE
    have Hcap := hido (fun g k e => ⟨by have := (hcap g k e).1; omega, (hcap g k e).2⟩ : ∀ g k, a' = some ⟨g, k, none⟩ → w.heap.size ≤ g ∧ g < w4.heap.size ∧ g ≠ w2.heap.size)
    clear hcap hres
    subst hE
    obtain ⟨x0, x1, x2, x3, x4⟩ := hrow.cells5
    obtain ⟨f0, f1, f2, f3, f4⟩ := hrow.open5
    go_wp2_with fail
    obtain ⟨w5, HW5⟩ : ∃ w5, Hid (w5 = w4.setCell ⟨w2.heap.size, 1, none⟩ (.int .u64 lsn)) := ⟨_, rfl⟩
    have hs5 := (hst.set 1 (.int .u64 lsn)).from
    have hr5 := h5.res.set_other (b' := w2.heap.size) (k := 1) (by omega) (.int .u64 lsn)
    have hb5 := h5.bel.setCell (p := ⟨w2.heap.size, 1, none⟩) (by show w.heap.size ≤ w2.heap.size; omega) (.int .u64 lsn)
    rw [← HW5.out] at hs5 hr5 hb5 ⊢
    have hq := hr5.set5 (.int .u32 q.num) (.int .u64 lsn) (.int .i64 q.kind) (.string q.head) (.slice a' q.slots.length c')
    have bq := below_set5 hb5 (b := w.heap.size + 2) (by omega) (.int .u32 q.num) (.int .u64 lsn) (.int .i64 q.kind) (.string q.head) (.slice a' q.slots.length c')
    have sq := hs5.store5 (b := w.heap.size + 2) (by omega) (.int .u32 q.num) (.int .u64 lsn) (.int .i64 q.kind) (.string q.head) (.slice a' q.slots.length c')
    obtain ⟨WX, HWX⟩ : ∃ WX, Hid (WX = store5 w5 (w.heap.size + 2) (.int .u32 q.num) (.int .u64 lsn) (.int .i64 q.kind) (.string q.head) (.slice a' q.slots.length c')) := ⟨_, rfl⟩
    have hzx : w4.heap.size ≤ WX.heap.size := by rw [HWX.out, store5_size, HW5.out]; simp
    have HZX := hido hzx
    clear hzx
    rw [← HWX.out] at hq bq
    rw [show (((((w5.setCell ⟨w.heap.size + 2, 0, none⟩ (.int .u32 q.num)).setCell ⟨w.heap.size + 2, 1, none⟩ (.int .u64 lsn)).setCell ⟨w.heap.size + 2, 2, none⟩ (.int .i64 q.kind)).setCell ⟨w.heap.size + 2, 3, none⟩ (.string q.head)).setCell ⟨w.heap.size + 2, 4, none⟩ (.slice a' q.slots.length c')) = WX from HWX.out.symm] at sq ⊢
    obtain ⟨r0, r1, r2, r3, r4⟩ := hq.cells5
    refine bodyPost_ret (v := .tuple #[.agg #[.int .u32 q.num, .int .u64 lsn, .int .i64 q.kind, .string q.head, .slice a' q.slots.length c'], .int .i64 0]) (by simp [results, Tryz.results20, go_sem, r0, r1, r2, r3, r4]) rfl ?_
    have hcf : ∀ g k, a' = some ⟨g, k, none⟩ → w.heap.size ≤ g ∧ g < WX.heap.size := fun g k e => ⟨(Hcap.out g k e).1, by have := (Hcap.out g k e).2.1; have := HZX.out; omega⟩
    exact ⟨_, rfl, bq, a', ⟨c', rfl⟩, sq.mono (by omega), hcf⟩
  · have hE' : (E != 0) = true := by rw [bne_iff_ne]; exact hE
    clear hres
    go_wp2
    have hq := h5.res.set5 (.int .u32 0) (.int .u64 0) (.int .i64 0) (.string ⟨#[]⟩) (.slice none 0 0)
    have bq := below_set5 h5.bel (b := w.heap.size + 2) (by omega) (.int .u32 0) (.int .u64 0) (.int .i64 0) (.string ⟨#[]⟩) (.slice none 0 0)
    obtain ⟨WX, HWX⟩ : ∃ WX, Hid (WX = store5 w4 (w.heap.size + 2) (.int .u32 0) (.int .u64 0) (.int .i64 0) (.string ⟨#[]⟩) (.slice none 0 0)) := ⟨_, rfl⟩
    rw [← HWX.out] at hq bq
    obtain ⟨r0, r1, r2, r3, r4⟩ := hq.cells5
    rw [show (((((w4.setCell ⟨w.heap.size + 2, 0, none⟩ (.int .u32 0)).setCell ⟨w.heap.size + 2, 1, none⟩ (.int .u64 0)).setCell ⟨w.heap.size + 2, 2, none⟩ (.int .i64 0)).setCell ⟨w.heap.size + 2, 3, none⟩ (.string ⟨#[]⟩)).setCell ⟨w.heap.size + 2, 4, none⟩ (.slice none 0 0)) = WX from HWX.out.symm]
    refine bodyPost_ret (v := .tuple #[.agg #[.int .u32 0, .int .u64 0, .int .i64 0, .string ⟨#[]⟩, .slice none 0 0], .int .i64 E]) (by simp [results, Tryz.results20, go_sem, r0, r1, r2, r3, r4]) rfl ?_
    exact ⟨_, rfl, bq, fun h => absurd h hE, fun _ => rfl⟩

end

end Go.Proofs.YtgkfdakieebnmaaGreat
