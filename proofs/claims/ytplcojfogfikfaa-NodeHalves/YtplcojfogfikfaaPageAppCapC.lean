/-
  page.Apply of an insert, with what is known of the capacity of the slots.
-/
import Derived.Test.YtplcojfogfikfaaPageInsCapC
namespace Go.Proofs.Ytplcojfogfikfaa
open Go.RowKit Go.Sort
set_option linter.unusedVariables false

/-- What page.change does to a page, with the capacity of its slots. -/
def ChangeDoesC (p : SheetV) (o : OpV) (E : Int) (q : SheetV) : Prop :=
  ∀ B w b bs, SheetAt B w b bs p → Calls Try.prog 35 #[.pointer (some ⟨b, 0, none⟩), o.val] w fun e w' => e = .returned (.int .i64 E) ∧ Below B w w' ∧
    (E = 0 → ∃ a' c', RowV w' b 5 (five (.int .u32 q.num) (.int .u64 q.lsn) (.int .i64 q.kind) (.string q.head) (.slice a' q.slots.length c')) ∧ StrsNot B b w' a' q.slots ∧ q.slots.length ≤ c')

set_option maxHeartbeats 1600000 in
set_option maxRecDepth 60000 in
theorem change_insC {p : SheetV} {o : OpV} (f : p.Fits) (ho : o.Ok) (hk : o.kind = 2) (ha : 0 ≤ o.at') : ChangeDoesC p o (insE p o) { p with slots := insL p.slots o.at'.toNat o.S } := by
  intro B w b bs h
  have hb1 := h.b1
  have hlt := h.lt
  have HI : Hid (∀ wx, SheetAt B wx b bs p → Calls Try.prog 58 #[.pointer (some ⟨b, 0, none⟩), o.val] wx fun e w' => e = .returned (.int .i64 (insE p o)) ∧ Below B wx w' ∧
      (insE p o = 0 → ∃ bs' c, RowV w' b 5 (five (.int .u32 p.num) (.int .u64 p.lsn) (.int .i64 p.kind) (.string p.head) (.slice (some ⟨bs', 0, none⟩) (p.slots.length + 1) c)) ∧ StrRow w' bs' (insL p.slots o.at'.toNat o.S) ∧ B ≤ bs' ∧ bs' < w'.heap.size ∧ bs' ≠ b ∧ p.slots.length + 1 ≤ c)) := fun wx hx => insert_anyC hx f ho ha
  have HZ : Hid (insE p o = 0 → o.at'.toNat ≤ p.slots.length) := fun e => by have := insE_zero e; omega
  generalize insE p o = E at *
  obtain ⟨K, A, S, T⟩ := o
  simp only at hk ha HI HZ ⊢
  subst hk
  generalize A.toNat = i at *
  simp only [OpV.val] at HI ⊢
  obtain ⟨W, HW⟩ : ∃ W, Hid (W = w.alloc (.cells #[.int .i64 2, .int .i64 A, .string S, .string T] 35)) := ⟨_, rfl⟩
  have bW : Below w.heap.size w W := by rw [HW.out]; exact (Below.refl _ _).alloc (Nat.le_refl _) _
  have h1 := h.below bW
  go_enter Try.func35, Try.ntmps35
  go_wp2_with fail
  rw [← HW.out]
  clear HW
  refine (HI.out _ h1).mono ?_
  rintro e w1 ⟨rfl, b1, hz⟩
  go_wp2
  go_ret
  refine ⟨rfl, (bW.mono (by omega)).trans b1, fun hE => ?_⟩
  obtain ⟨bs', c', q1, q2, q3, q4, q5, qc⟩ := hz hE
  exact ⟨some ⟨bs', 0, none⟩, c', by rw [insL_length _ _ _ (HZ.out hE)]; exact q1, q2.not q5 q3 q4, by show (insL _ _ _).length ≤ _; rw [insL_length _ _ _ (HZ.out hE)]; exact qc⟩


section
variable {w : World} {p q : SheetV} {o : OpV} {a : Option Addr} {c : Nat} {E : Int}

set_option maxHeartbeats 3200000 in
set_option maxRecDepth 60000 in
theorem apply_ofC (lsn : Nat) (h : p.Ok w a) (f : p.Fits) (ho : o.Ok) (hc : chkB o = true) (hd : ChangeDoesC p o E q) :
    Calls Try.prog 8 #[p.val a c, o.val, .int .u64 lsn] w fun e w' => ∃ X, e = .returned (.tuple #[X, .int .i64 E]) ∧ Below w.heap.size w w' ∧
      (E = 0 → ∃ a' c', X = ({ q with lsn := lsn } : SheetV).val a' c' ∧ StrsFrom w.heap.size w' a' q.slots ∧ q.slots.length ≤ c') ∧ (E ≠ 0 → X = sheet0.val none 0) := by
  have HCK : Hid (∀ wx, Calls Try.prog 33 #[o.val] wx fun e w' => e = .returned (.int .i64 0) ∧ Below wx.heap.size wx w') := fun wx => by
    have := check_any o wx ho
    rw [show chkE o = 0 from by unfold chkE; rw [hc]; rfl] at this
    exact this
  have HCP : Hid (∀ wx, Below w.heap.size w wx → Calls Try.prog 34 #[p.val a c] wx fun e w' => ∃ b, e = .returned (p.val (some ⟨b, 0, none⟩) p.slots.length) ∧ wx.heap.size < b ∧ b < w'.heap.size ∧ RowV w' b p.slots.length (fun j => .string (p.slots.getD j ByteArray.empty)) ∧ Below wx.heap.size wx w') := fun wx hb => copyOf_any p a c wx (h.below hb)
  have HCO : Hid (∀ wx, Calls Try.prog 36 #[o.val] wx fun e w' => e = .returned o.val ∧ Below wx.heap.size wx w') := fun wx => copyOfOp_any o wx ho
  have HCH : Hid (ChangeDoesC p o E q) := hd
  clear hd
  unfold ChangeDoesC at HCH
  simp only [SheetV.val, OpV.val] at HCK HCP HCO HCH ⊢
  obtain ⟨W, HW⟩ : ∃ W, Hid (W = ((w.alloc (.cells #[.int .u32 p.num, .int .u64 p.lsn, .int .i64 p.kind, .string p.head, .slice a p.slots.length c] 29)).alloc (.cells #[.int .i64 o.kind, .int .i64 o.at', .string o.S, .string o.old] 35)).alloc (.cells #[.int .u32 0, .int .u64 0, .int .i64 0, .string ⟨#[]⟩, .slice none 0 0] 29)) := ⟨_, rfl⟩
  have hA : ApplyAt w W p o a c := by
    rw [HW.out]
    refine ⟨((RowV.five_new w _ _ _ _ _ _).below ((Below.refl _ _).alloc (Nat.le_refl _) _) (by simp)).below ((Below.refl _ _).alloc (Nat.le_refl _) _) (by simp; omega), ?_, ?_, (((Below.refl _ _).alloc (Nat.le_refl _) _).alloc (by simp) _).alloc (by simp; omega) _, by simp⟩
    · have := (RowV.four_new (w.alloc (.cells #[.int .u32 p.num, .int .u64 p.lsn, .int .i64 p.kind, .string p.head, .slice a p.slots.length c] 29)) (.int .i64 o.kind) (.int .i64 o.at') (.string o.S) (.string o.old) 35).below ((Below.refl _ _).alloc (Nat.le_refl _) (.cells #[.int .u32 0, .int .u64 0, .int .i64 0, .string ⟨#[]⟩, .slice none 0 0] 29)) (by simp)
      simpa using this
    · have := RowV.five_new ((w.alloc (.cells #[.int .u32 p.num, .int .u64 p.lsn, .int .i64 p.kind, .string p.head, .slice a p.slots.length c] 29)).alloc (.cells #[.int .i64 o.kind, .int .i64 o.at', .string o.S, .string o.old] 35)) (.int .u32 0) (.int .u64 0) (.int .i64 0) (.string ⟨#[]⟩) (.slice none 0 0) 29
      simpa using this
  go_enter Try.func8, Try.ntmps8
  go_wp2_with fail
  rw [← HW.out]
  clear HW
  refine (HCK.out _).mono ?_
  rintro e w1 ⟨rfl, b1⟩
  have h1 := hA.below b1 hA.lt
  clear b1 hA
  obtain ⟨x0, x1, x2, x3, x4⟩ := h1.page.cells5
  go_wp2_with fail
  refine (HCP.out _ h1.bel).mono ?_
  rintro e w2 ⟨b, rfl, hb1, hb2, hrow, b2⟩
  have hl1 := h1.lt
  have h2 := h1.below b2 h1.lt
  clear h1 x0 x1 x2 x3 x4
  obtain ⟨y0, y1, y2, y3⟩ := h2.op.cells4
  have hz2 := h2.lt
  have hz2' : w.heap.size + 1 < w2.heap.size := by omega
  go_wp2_with fail
  obtain ⟨W2, HW2⟩ : ∃ W2, Hid (W2 = w2.alloc (.cells #[.int .u32 p.num, .int .u64 p.lsn, .int .i64 p.kind, .string p.head, .slice (some ⟨b, 0, none⟩) p.slots.length p.slots.length] 29)) := ⟨_, rfl⟩
  have bA : Below w2.heap.size w2 W2 := by rw [HW2.out]; exact (Below.refl _ _).alloc (Nat.le_refl _) _
  have h3 := h2.below bA hz2
  have hs : SheetAt (w.heap.size + 3) W2 w2.heap.size b p := by
    refine ⟨by rw [HW2.out]; exact RowV.five_new w2 _ _ _ _ _ _, hrow.below bA hb2, hz2, by rw [HW2.out]; simp, by omega, by rw [HW2.out]; simp; omega, by omega⟩
  rw [← HW2.out]
  clear HW2 h2 y0 y1 y2 y3 bA hrow b2
  refine (HCO.out _).mono ?_
  rintro e w3 ⟨rfl, b3⟩
  have h4 := h3.below b3 h3.lt
  have hs4 := hs.below b3
  clear h3 hs b3
  go_wp2_with fail
  refine (HCH.out _ _ _ _ hs4).mono ?_
  rintro e w4 ⟨rfl, b4, hres⟩
  have h5 := h4.below b4 (Nat.le_refl _)
  have hz5 := Nat.lt_of_lt_of_le hs4.lt b4.size
  clear h4 hs4 b4
  obtain ⟨y0, y1, y2, y3, y4⟩ := h5.res.cells5
  obtain ⟨g0, g1, g2, g3, g4⟩ := h5.res.open5
  by_cases hE : E = 0
  · obtain ⟨a', c', hrow, hst, hcap⟩ := hres hE
    subst hE
    obtain ⟨x0, x1, x2, x3, x4⟩ := hrow.cells5
    obtain ⟨f0, f1, f2, f3, f4⟩ := hrow.open5
    go_wp2_with fail
    obtain ⟨w5, HW5⟩ : ∃ w5, Hid (w5 = w4.setCell ⟨w2.heap.size, 1, none⟩ (.int .u64 lsn)) := ⟨_, rfl⟩
    have hs5 := (hst.set 1 (.int .u64 lsn)).from
    have hr5 := h5.res.set_other (b' := w2.heap.size) (k := 1) (by omega) (.int .u64 lsn)
    have hb5 := h5.bel.setCell (p := ⟨w2.heap.size, 1, none⟩) (by show w.heap.size ≤ w2.heap.size; omega) (.int .u64 lsn)
    rw [← HW5.out] at hs5 hr5 hb5 ⊢
    have hq := hr5.set5 (.int .u32 q.num) (.int .u64 lsn) (.int .i64 q.kind) (.string q.head) (.slice a' q.slots.length c')
    have bq := below_set5 hb5 (b := w.heap.size + 2) (by omega) (.int .u32 q.num) (.int .u64 lsn) (.int .i64 q.kind) (.string q.head) (.slice a' q.slots.length c')
    have sq := hs5.store5 (b := w.heap.size + 2) (by omega) (.int .u32 q.num) (.int .u64 lsn) (.int .i64 q.kind) (.string q.head) (.slice a' q.slots.length c')
    obtain ⟨WX, HWX⟩ : ∃ WX, Hid (WX = store5 w5 (w.heap.size + 2) (.int .u32 q.num) (.int .u64 lsn) (.int .i64 q.kind) (.string q.head) (.slice a' q.slots.length c')) := ⟨_, rfl⟩
    rw [← HWX.out] at hq bq
    rw [show (((((w5.setCell ⟨w.heap.size + 2, 0, none⟩ (.int .u32 q.num)).setCell ⟨w.heap.size + 2, 1, none⟩ (.int .u64 lsn)).setCell ⟨w.heap.size + 2, 2, none⟩ (.int .i64 q.kind)).setCell ⟨w.heap.size + 2, 3, none⟩ (.string q.head)).setCell ⟨w.heap.size + 2, 4, none⟩ (.slice a' q.slots.length c')) = WX from HWX.out.symm] at sq ⊢
    obtain ⟨r0, r1, r2, r3, r4⟩ := hq.cells5
    refine bodyPost_ret (v := .tuple #[.agg #[.int .u32 q.num, .int .u64 lsn, .int .i64 q.kind, .string q.head, .slice a' q.slots.length c'], .int .i64 0]) (by simp [results, Try.results8, go_sem, r0, r1, r2, r3, r4]) rfl ?_
    first | exact ⟨_, rfl, bq, a', ⟨c', rfl, sq.mono (by omega), hcap⟩⟩ | exact ⟨_, rfl, bq, ⟨a', c', rfl, sq.mono (by omega), hcap⟩⟩ | exact ⟨_, rfl, bq, fun _ => ⟨a', c', rfl, sq.mono (by omega), hcap⟩, fun h => absurd rfl h⟩
  · have hE' : (E != 0) = true := by rw [bne_iff_ne]; exact hE
    clear hres
    go_wp2
    have hq := h5.res.set5 (.int .u32 0) (.int .u64 0) (.int .i64 0) (.string ⟨#[]⟩) (.slice none 0 0)
    have bq := below_set5 h5.bel (b := w.heap.size + 2) (by omega) (.int .u32 0) (.int .u64 0) (.int .i64 0) (.string ⟨#[]⟩) (.slice none 0 0)
    obtain ⟨WX, HWX⟩ : ∃ WX, Hid (WX = store5 w4 (w.heap.size + 2) (.int .u32 0) (.int .u64 0) (.int .i64 0) (.string ⟨#[]⟩) (.slice none 0 0)) := ⟨_, rfl⟩
    rw [← HWX.out] at hq bq
    obtain ⟨r0, r1, r2, r3, r4⟩ := hq.cells5
    rw [show (((((w4.setCell ⟨w.heap.size + 2, 0, none⟩ (.int .u32 0)).setCell ⟨w.heap.size + 2, 1, none⟩ (.int .u64 0)).setCell ⟨w.heap.size + 2, 2, none⟩ (.int .i64 0)).setCell ⟨w.heap.size + 2, 3, none⟩ (.string ⟨#[]⟩)).setCell ⟨w.heap.size + 2, 4, none⟩ (.slice none 0 0)) = WX from HWX.out.symm]
    refine bodyPost_ret (v := .tuple #[.agg #[.int .u32 0, .int .u64 0, .int .i64 0, .string ⟨#[]⟩, .slice none 0 0], .int .i64 E]) (by simp [results, Try.results8, go_sem, r0, r1, r2, r3, r4]) rfl ?_
    exact ⟨_, rfl, bq, fun h => absurd h hE, fun _ => rfl⟩


end
end Go.Proofs.Ytplcojfogfikfaa
