/-
  Get under a manager: a page in a frame, a page that is fetched; Apply as change asks for it.
  What page.change and Apply do, with where the slots lie behind it: in new memory, or nowhere.
  What a change that may be does to a page that fits: an error, or a page that fits, whose slots lie in new memory.
  What a pool reads of a new disk on which both places of page 5 were spoilt.
  A step of a disk under a pool; pool.Get of what is no page.
  (*txn.Manager).Log of any change that may be, behind begun and Begin: whatever it tells, the transaction stands as it stood, or further on.
-/
import Derived.Test.YtjemeopafkafgaaGreatTxChg0Q
import Derived.Test.YtjemeopafkafgaaGreatPageApplyQ
import Derived.StillTailTactics
import Derived.Test.YtjemeopafkafgaaGreatPageSetQ
import Derived.Test.YtjemeopafkafgaaGreatBackMathQ
import Derived.Test.YtjemeopafkafgaaGreatPoolReadQ
import Derived.Test.YtjemeopafkafgaaGreatTxLogEV
import Derived.Test.YtjemeopafkafgaaGreatTxLogRQ
import Derived.Test.YtjemeopafkafgaaGreatTxLogNV
import Derived.Test.YtjemeopafkafgaaGreatTxNewQ
import Derived.Test.YtjemeopafkafgaaGreatWalRoomQ
import Derived.Test.YtjemeopafkafgaaGreatTxLineQ
namespace Go.Proofs.YtjemeopafkafgaaGreat
open Go.RowKit Go.Sort
set_option linter.unusedVariables false
set_option linter.unusedSimpArgs false

section
variable {w : World} {m p : Nat} {X : Int → Nat} {A : Nat → Prop} {P P1 : PG} {l l1 : LG} {d d1 : DG} {M : MgG}

theorem mget_here (h : MSys w m p X A P l d M) (n : Nat) (h1 : 1 ≤ n) (h2 : n ≤ 2048) {f : FrV} (hf : P.F n = some f) :
    Calls Tryz.prog 92 #[.pointer (some ⟨p, 0, none⟩), .int .u32 n] w (GtOut w m p X A f.sh P l d M) := by
  obtain ⟨A1, hS, _, _⟩ := h.sys
  refine (get_here hS n h1 h2 hf).mono ?_
  rintro e w' ⟨⟨a, c, rfl, s2, b2⟩⟩
  exact ⟨⟨a, c, A, rfl, s2, h.below b2, Moves.of_kept (Kept.of_below b2)⟩⟩

theorem mget_new (h : MSys w m p X A P l d M) (n : Nat) (h1 : 1 ≤ n) (h2 : n ≤ 2048) (hf : P.F n = none) (hD : d.dead = false) (hs : ∀ q, (readD d q).size ≤ 1000000) (hE : feE d n = 0) (hR : RoomTo p P l d P1 l1 d1) (hN : P1.F n = none) (hz : P1.z ≤ 1000000) (hft : P1.fetched ≤ 1000000) :
    Calls Tryz.prog 92 #[.pointer (some ⟨p, 0, none⟩), .int .u32 n] w (GtOut w m p X A (feX d n) (getP P1 (feX d n)) l1 d1 M) := by
  obtain ⟨A1, hS, hA1, step⟩ := h.sys
  refine (get_new hS n h1 h2 hf hD hs hE hR hN hz hft).mono ?_
  rintro e w' ⟨⟨a, c, A', rfl, s2, g2, mv2, ha⟩⟩
  obtain ⟨A2, g3, mv3⟩ := step w' A' _ _ _ g2 mv2
  exact ⟨⟨a, c, A2, rfl, s2, g3, mv3⟩⟩

end

end Go.Proofs.YtjemeopafkafgaaGreat

namespace Go.Proofs.YtjemeopafkafgaaGreat
open Go.RowKit Go.Sort
set_option linter.unusedVariables false
set_option linter.unusedSimpArgs false

theorem hido {p : Prop} (h : p) : Hid p := h

/-- What page.change does to a page, where the slots lie in new memory behind it. -/
def ChangeDoesO (p : SheetV) (o : OpV) (E : Int) (q : SheetV) : Prop :=
  ∀ B w b bs, SheetAt B w b bs p → Calls Tryz.prog 150 #[.pointer (some ⟨b, 0, none⟩), o.val] w fun e w' => e = .returned (.int .i64 E) ∧ Below B w w' ∧
    (E = 0 → ∃ a' c', RowV w' b 5 (five (.int .u32 q.num) (.int .u64 q.lsn) (.int .i64 q.kind) (.string q.head) (.slice a' q.slots.length c')) ∧ StrsNot B b w' a' q.slots ∧ (∀ g k, a' = some ⟨g, k, none⟩ → B ≤ g ∧ g < w'.heap.size ∧ g ≠ b))

theorem ChangeDoes.own {p q : SheetV} {o : OpV} {E : Int} (h : ChangeDoes p o E q) (hq : q.slots ≠ []) : ChangeDoesO p o E q := by
  intro B w b bs hs
  refine (h B w b bs hs).mono ?_
  rintro e w' ⟨rfl, b1, hz⟩
  refine ⟨rfl, b1, fun hE => ?_⟩
  obtain ⟨a', c', hr, hn⟩ := hz hE
  refine ⟨a', c', hr, hn, fun g k e => ?_⟩
  rcases hn with h0 | ⟨bs', o', e', h1, h2, h3, _⟩
  · exact absurd h0 hq
  · rw [e] at e'
    simp only [Option.some.injEq, Addr.mk.injEq, and_true] at e'
    rw [e'.1]
    exact ⟨h2, h3, h1⟩

theorem ChangeDoes.ownE {p q : SheetV} {o : OpV} {E : Int} (h : ChangeDoes p o E q) (hE : E ≠ 0) : ChangeDoesO p o E q := by
  intro B w b bs hs
  refine (h B w b bs hs).mono ?_
  rintro e w' ⟨rfl, b1, hz⟩
  exact ⟨rfl, b1, fun e => absurd e hE⟩

def fmtQ (p : SheetV) (o : OpV) : SheetV := ⟨p.num, 0, o.at', o.S, []⟩

set_option maxHeartbeats 1600000 in
set_option maxRecDepth 20000 in
theorem change_fmtO {p : SheetV} {o : OpV} (ho : o.Ok) (hk : o.kind = 1) : ChangeDoesO p o 0 (fmtQ p o) := by
  intro B w b bs h
  have hb1 := h.b1
  have hlt := h.lt
  obtain ⟨K, A, S, T⟩ := o
  simp only at hk ⊢
  subst hk
  unfold fmtQ
  simp only [OpV.val]
  obtain ⟨W, HW⟩ : ∃ W, Hid (W = w.alloc (.cells #[.int .i64 1, .int .i64 A, .string S, .string T] 48)) := ⟨_, rfl⟩
  have bW : Below w.heap.size w W := by rw [HW.out]; exact (Below.refl _ _).alloc (Nat.le_refl _) _
  have h1 := h.below bW
  have r1 : RowV W w.heap.size 4 (four (.int .i64 1) (.int .i64 A) (.string S) (.string T)) := by rw [HW.out]; exact RowV.four_new w _ _ _ _ _
  obtain ⟨x0, x1, x2, x3, x4⟩ := h1.row.cells5
  obtain ⟨g0, g1, g2, g3, g4⟩ := h1.row.open5
  obtain ⟨y0, y1, y2, y3⟩ := r1.cells4
  have bB : Below B w W := bW.mono (by omega)
  have hbo : b ≠ w.heap.size := by omega
  go_enter Tryz.func150, Tryz.ntmps150
  go_wp2_with fail
  rw [← HW.out]
  clear HW
  go_still_tail 11, (by kernel_rfl)
  change wpList _ _ _ _ _ W.drew
  have h2 : SheetAt B W.drew b bs p := h1.below ((Below.refl _ _).drew)
  have B2 : Below B w W.drew := bB.drew
  obtain ⟨V, HV⟩ : ∃ V, Hid (V = W.drew) := ⟨_, rfl⟩
  rw [← HV.out] at h2 B2 ⊢
  clear HV h1 x0 x1 x2 x3 x4 g0 g1 g2 g3 g4 y0 y1 y2 y3 r1 bB bW
  obtain ⟨x0, x1, x2, x3, x4⟩ := h2.row.cells5
  obtain ⟨g0, g1, g2, g3, g4⟩ := h2.row.open5
  go_wp2
  go_ret
  refine ⟨rfl, below_set5 B2 hb1 _ _ _ _ _, fun _ => ⟨none, 0, h2.row.set5 _ _ _ _ _, .inl rfl, fun g k e => by cases e⟩⟩

set_option maxHeartbeats 1600000 in
set_option maxRecDepth 60000 in
theorem change_remO {p : SheetV} {o : OpV} (f : p.Fits) (ho : o.Ok) (hk : o.kind = 3) (ha : 0 ≤ o.at') : ChangeDoesO p o (standE p o) { p with slots := p.slots.eraseIdx o.at'.toNat } := by
  intro B w b bs h
  have hb1 := h.b1
  have hlt := h.lt
  have HI : Hid (∀ wx, SheetAt B wx b bs p → Calls Tryz.prog 181 #[.pointer (some ⟨b, 0, none⟩), o.val] wx fun e w' => e = .returned (.int .i64 (standE p o)) ∧ Below B wx w' ∧
      (standE p o = 0 → RowV w' b 5 (five (.int .u32 p.num) (.int .u64 p.lsn) (.int .i64 p.kind) (.string p.head) (.slice (some ⟨bs, 0, none⟩) (p.slots.length - 1) p.slots.length)) ∧ StrRow w' bs (p.slots.eraseIdx o.at'.toNat))) := fun wx hx => remove_any hx f ho ha
  have HZ : Hid (standE p o = 0 → o.at'.toNat < p.slots.length) := fun q => by have := (standE_zero q).1; omega
  generalize standE p o = E at *
  obtain ⟨K, A, S, T⟩ := o
  simp only at hk ha HI HZ ⊢
  subst hk
  generalize A.toNat = i at *
  simp only [OpV.val] at HI ⊢
  obtain ⟨W, HW⟩ : ∃ W, Hid (W = w.alloc (.cells #[.int .i64 3, .int .i64 A, .string S, .string T] 48)) := ⟨_, rfl⟩
  have bW : Below w.heap.size w W := by rw [HW.out]; exact (Below.refl _ _).alloc (Nat.le_refl _) _
  have h1 := h.below bW
  go_enter Tryz.func150, Tryz.ntmps150
  go_wp2_with fail
  rw [← HW.out]
  clear HW
  refine (HI.out _ h1).mono ?_
  rintro e w1 ⟨rfl, b1, hz⟩
  go_wp2
  go_ret
  refine ⟨rfl, (bW.mono (by omega)).trans b1, fun hE => ?_⟩
  obtain ⟨q1, q2⟩ := hz hE
  have hl := h1.bslt
  exact ⟨some ⟨bs, 0, none⟩, p.slots.length, by simp only [List.length_eraseIdx_of_lt (HZ.out hE)]; exact q1, q2.not h.ne h.bs1 (Nat.lt_of_lt_of_le hl b1.size), fun g k e => by simp only [Option.some.injEq, Addr.mk.injEq, and_true] at e; rw [← e.1]; exact ⟨h.bs1, Nat.lt_of_lt_of_le hl b1.size, h.ne⟩⟩

set_option maxHeartbeats 1600000 in
set_option maxRecDepth 60000 in
theorem change_headO {p : SheetV} {o : OpV} (f : p.Fits) (ho : o.Ok) (hk : o.kind = 5) : ChangeDoesO p o (headE p o) { p with head := o.S } := by
  intro B w b bs h
  have hb1 := h.b1
  have hlt := h.lt
  have HI : Hid (∀ wx, SheetAt B wx b bs p → Calls Tryz.prog 183 #[.pointer (some ⟨b, 0, none⟩), o.val] wx fun e w' => e = .returned (.int .i64 (headE p o)) ∧ Below B wx w' ∧
      (headE p o = 0 → SheetAt B w' b bs { p with head := o.S })) := fun wx hx => setHead_any hx f ho
  generalize headE p o = E at *
  generalize { p with head := o.S } = q at *
  obtain ⟨K, A, S, T⟩ := o
  simp only at hk HI ⊢
  subst hk
  simp only [OpV.val] at HI ⊢
  obtain ⟨W, HW⟩ : ∃ W, Hid (W = w.alloc (.cells #[.int .i64 5, .int .i64 A, .string S, .string T] 48)) := ⟨_, rfl⟩
  have bW : Below w.heap.size w W := by rw [HW.out]; exact (Below.refl _ _).alloc (Nat.le_refl _) _
  have h1 := h.below bW
  go_enter Tryz.func150, Tryz.ntmps150
  go_wp2_with fail
  rw [← HW.out]
  clear HW
  refine (HI.out _ h1).mono ?_
  rintro e w1 ⟨rfl, b1, hz⟩
  go_wp2
  go_ret
  refine ⟨rfl, (bW.mono (by omega)).trans b1, fun hE => ?_⟩
  have hq := hz hE
  exact ⟨some ⟨bs, 0, none⟩, q.slots.length, hq.row, StrRow.toNot hq, fun g k e => by simp only [Option.some.injEq, Addr.mk.injEq, and_true] at e; rw [← e.1]; exact ⟨hq.bs1, hq.bslt, hq.ne⟩⟩

set_option maxHeartbeats 1600000 in
set_option maxRecDepth 60000 in
theorem change_turnO {p : SheetV} {o : OpV} (f : p.Fits) (ho : o.Ok) (hk : o.kind = 7) (h1S : 1 ≤ o.S.size) : ChangeDoesO p o (turnE p o) { p with kind := ((o.S.data.toList.getD 0 0).toNat : Int), head := o.S.extract 1 o.S.size } := by
  intro B w b bs h
  have hb1 := h.b1
  have hlt := h.lt
  have HI : Hid (∀ wx, SheetAt B wx b bs p → Calls Tryz.prog 185 #[.pointer (some ⟨b, 0, none⟩), o.val] wx fun e w' => e = .returned (.int .i64 (turnE p o)) ∧ Below B wx w' ∧
      (turnE p o = 0 → SheetAt B w' b bs { p with kind := ((o.S.data.toList.getD 0 0).toNat : Int), head := o.S.extract 1 o.S.size })) := fun wx hx => turn_any hx f ho h1S
  generalize turnE p o = E at *
  generalize { p with kind := ((o.S.data.toList.getD 0 0).toNat : Int), head := o.S.extract 1 o.S.size } = q at *
  obtain ⟨K, A, S, T⟩ := o
  simp only at hk HI ⊢
  subst hk
  simp only [OpV.val] at HI ⊢
  obtain ⟨W, HW⟩ : ∃ W, Hid (W = w.alloc (.cells #[.int .i64 7, .int .i64 A, .string S, .string T] 48)) := ⟨_, rfl⟩
  have bW : Below w.heap.size w W := by rw [HW.out]; exact (Below.refl _ _).alloc (Nat.le_refl _) _
  have h1 := h.below bW
  go_enter Tryz.func150, Tryz.ntmps150
  go_wp2_with fail
  rw [← HW.out]
  clear HW
  refine (HI.out _ h1).mono ?_
  rintro e w1 ⟨rfl, b1, hz⟩
  go_wp2
  go_ret
  refine ⟨rfl, (bW.mono (by omega)).trans b1, fun hE => ?_⟩
  have hq := hz hE
  exact ⟨some ⟨bs, 0, none⟩, q.slots.length, hq.row, StrRow.toNot hq, fun g k e => by simp only [Option.some.injEq, Addr.mk.injEq, and_true] at e; rw [← e.1]; exact ⟨hq.bs1, hq.bslt, hq.ne⟩⟩

section
variable {w : World} {p q : SheetV} {o : OpV} {a : Option Addr} {c : Nat} {E : Int}

set_option maxHeartbeats 3200000 in
set_option maxRecDepth 60000 in
theorem apply_ofO (lsn : Nat) (h : p.Ok w a) (f : p.Fits) (ho : o.Ok) (hc : chkB o = true) (hd : ChangeDoesO p o E q) :
    Calls Tryz.prog 110 #[p.val a c, o.val, .int .u64 lsn] w fun e w' => ∃ X, e = .returned (.tuple #[X, .int .i64 E]) ∧ Below w.heap.size w w' ∧
      (E = 0 → ∃ a' c', X = ({ q with lsn := lsn } : SheetV).val a' c' ∧ StrsFrom w.heap.size w' a' q.slots ∧ (∀ g k, a' = some ⟨g, k, none⟩ → w.heap.size ≤ g ∧ g < w'.heap.size)) ∧ (E ≠ 0 → X = sheet0.val none 0) := by
  have HCK : Hid (∀ wx, Calls Tryz.prog 129 #[o.val] wx fun e w' => e = .returned (.int .i64 0) ∧ Below wx.heap.size wx w') := fun wx => by
    have := check_any o wx ho
    rw [show chkE o = 0 from by unfold chkE; rw [hc]; rfl] at this
    exact this
  have HCP : Hid (∀ wx, Below w.heap.size w wx → Calls Tryz.prog 149 #[p.val a c] wx fun e w' => ∃ b, e = .returned (p.val (some ⟨b, 0, none⟩) p.slots.length) ∧ wx.heap.size < b ∧ b < w'.heap.size ∧ RowV w' b p.slots.length (fun j => .string (p.slots.getD j ByteArray.empty)) ∧ Below wx.heap.size wx w') := fun wx hb => copyOf_any p a c wx (h.below hb)
  have HCO : Hid (∀ wx, Calls Tryz.prog 126 #[o.val] wx fun e w' => e = .returned o.val ∧ Below wx.heap.size wx w') := fun wx => copyOfOp_any o wx ho
  have HCH : Hid (ChangeDoesO p o E q) := hd
  clear hd
  unfold ChangeDoesO at HCH
  simp only [SheetV.val, OpV.val] at HCK HCP HCO HCH ⊢
  obtain ⟨W, HW⟩ : ∃ W, Hid (W = ((w.alloc (.cells #[.int .u32 p.num, .int .u64 p.lsn, .int .i64 p.kind, .string p.head, .slice a p.slots.length c] 100)).alloc (.cells #[.int .i64 o.kind, .int .i64 o.at', .string o.S, .string o.old] 48)).alloc (.cells #[.int .u32 0, .int .u64 0, .int .i64 0, .string ⟨#[]⟩, .slice none 0 0] 100)) := ⟨_, rfl⟩
  have hA : ApplyAt w W p o a c := by
    rw [HW.out]
    refine ⟨((RowV.five_new w _ _ _ _ _ _).below ((Below.refl _ _).alloc (Nat.le_refl _) _) (by simp)).below ((Below.refl _ _).alloc (Nat.le_refl _) _) (by simp; omega), ?_, ?_, (((Below.refl _ _).alloc (Nat.le_refl _) _).alloc (by simp) _).alloc (by simp; omega) _, by simp⟩
    · have := (RowV.four_new (w.alloc (.cells #[.int .u32 p.num, .int .u64 p.lsn, .int .i64 p.kind, .string p.head, .slice a p.slots.length c] 100)) (.int .i64 o.kind) (.int .i64 o.at') (.string o.S) (.string o.old) 48).below ((Below.refl _ _).alloc (Nat.le_refl _) (.cells #[.int .u32 0, .int .u64 0, .int .i64 0, .string ⟨#[]⟩, .slice none 0 0] 100)) (by simp)
      simpa using this
    · have := RowV.five_new ((w.alloc (.cells #[.int .u32 p.num, .int .u64 p.lsn, .int .i64 p.kind, .string p.head, .slice a p.slots.length c] 100)).alloc (.cells #[.int .i64 o.kind, .int .i64 o.at', .string o.S, .string o.old] 48)) (.int .u32 0) (.int .u64 0) (.int .i64 0) (.string ⟨#[]⟩) (.slice none 0 0) 100
      simpa using this
  go_enter Tryz.func110, Tryz.ntmps110
  go_wp2_with fail
  rw [← HW.out]
  clear HW
  refine (HCK.out _).mono ?_
  rintro e w1 ⟨rfl, b1⟩
  have h1 := hA.below b1 hA.lt
  clear b1 hA
  obtain ⟨x0, x1, x2, x3, x4⟩ := h1.page.cells5
  go_wp2_with fail
  refine (HCP.out _ h1.bel).mono ?_
  rintro e w2 ⟨b, rfl, hb1, hb2, hrow, b2⟩
  have hl1 := h1.lt
  have h2 := h1.below b2 h1.lt
  clear h1 x0 x1 x2 x3 x4
  obtain ⟨y0, y1, y2, y3⟩ := h2.op.cells4
  have hz2 := h2.lt
  have hz2' : w.heap.size + 1 < w2.heap.size := by omega
  go_wp2_with fail
  obtain ⟨W2, HW2⟩ : ∃ W2, Hid (W2 = w2.alloc (.cells #[.int .u32 p.num, .int .u64 p.lsn, .int .i64 p.kind, .string p.head, .slice (some ⟨b, 0, none⟩) p.slots.length p.slots.length] 100)) := ⟨_, rfl⟩
  have bA : Below w2.heap.size w2 W2 := by rw [HW2.out]; exact (Below.refl _ _).alloc (Nat.le_refl _) _
  have h3 := h2.below bA hz2
  have hs : SheetAt (w.heap.size + 3) W2 w2.heap.size b p := by
    refine ⟨by rw [HW2.out]; exact RowV.five_new w2 _ _ _ _ _ _, hrow.below bA hb2, hz2, by rw [HW2.out]; simp, by omega, by rw [HW2.out]; simp; omega, by omega⟩
  rw [← HW2.out]
  clear HW2 h2 y0 y1 y2 y3 bA hrow b2
  refine (HCO.out _).mono ?_
  rintro e w3 ⟨rfl, b3⟩
  have h4 := h3.below b3 h3.lt
  have hs4 := hs.below b3
  clear h3 hs b3
  go_wp2_with fail
  refine (HCH.out _ _ _ _ hs4).mono ?_
  rintro e w4 ⟨rfl, b4, hres⟩
  have h5 := h4.below b4 (Nat.le_refl _)
  have hz5 := Nat.lt_of_lt_of_le hs4.lt b4.size
  clear h4 hs4 b4
  obtain ⟨y0, y1, y2, y3, y4⟩ := h5.res.cells5
  obtain ⟨g0, g1, g2, g3, g4⟩ := h5.res.open5
  by_cases hE : E = 0
  · obtain ⟨a', c', hrow, hst, hcap⟩ := hres hE
    have Hcap := hido (fun g k e => ⟨by have := (hcap g k e).1; omega, (hcap g k e).2⟩ : ∀ g k, a' = some ⟨g, k, none⟩ → w.heap.size ≤ g ∧ g < w4.heap.size ∧ g ≠ w2.heap.size)
    clear hcap hres
    subst hE
    obtain ⟨x0, x1, x2, x3, x4⟩ := hrow.cells5
    obtain ⟨f0, f1, f2, f3, f4⟩ := hrow.open5
    go_wp2_with fail
    obtain ⟨w5, HW5⟩ : ∃ w5, Hid (w5 = w4.setCell ⟨w2.heap.size, 1, none⟩ (.int .u64 lsn)) := ⟨_, rfl⟩
    have hs5 := (hst.set 1 (.int .u64 lsn)).from
    have hr5 := h5.res.set_other (b' := w2.heap.size) (k := 1) (by omega) (.int .u64 lsn)
    have hb5 := h5.bel.setCell (p := ⟨w2.heap.size, 1, none⟩) (by show w.heap.size ≤ w2.heap.size; omega) (.int .u64 lsn)
    rw [← HW5.out] at hs5 hr5 hb5 ⊢
    have hq := hr5.set5 (.int .u32 q.num) (.int .u64 lsn) (.int .i64 q.kind) (.string q.head) (.slice a' q.slots.length c')
    have bq := below_set5 hb5 (b := w.heap.size + 2) (by omega) (.int .u32 q.num) (.int .u64 lsn) (.int .i64 q.kind) (.string q.head) (.slice a' q.slots.length c')
    have sq := hs5.store5 (b := w.heap.size + 2) (by omega) (.int .u32 q.num) (.int .u64 lsn) (.int .i64 q.kind) (.string q.head) (.slice a' q.slots.length c')
    obtain ⟨WX, HWX⟩ : ∃ WX, Hid (WX = store5 w5 (w.heap.size + 2) (.int .u32 q.num) (.int .u64 lsn) (.int .i64 q.kind) (.string q.head) (.slice a' q.slots.length c')) := ⟨_, rfl⟩
    have hzx : w4.heap.size ≤ WX.heap.size := by rw [HWX.out, store5_size, HW5.out]; simp
    have HZX := hido hzx
    clear hzx
    rw [← HWX.out] at hq bq
    rw [show (((((w5.setCell ⟨w.heap.size + 2, 0, none⟩ (.int .u32 q.num)).setCell ⟨w.heap.size + 2, 1, none⟩ (.int .u64 lsn)).setCell ⟨w.heap.size + 2, 2, none⟩ (.int .i64 q.kind)).setCell ⟨w.heap.size + 2, 3, none⟩ (.string q.head)).setCell ⟨w.heap.size + 2, 4, none⟩ (.slice a' q.slots.length c')) = WX from HWX.out.symm] at sq ⊢
    obtain ⟨r0, r1, r2, r3, r4⟩ := hq.cells5
    refine bodyPost_ret (v := .tuple #[.agg #[.int .u32 q.num, .int .u64 lsn, .int .i64 q.kind, .string q.head, .slice a' q.slots.length c'], .int .i64 0]) (by simp [results, Tryz.results110, go_sem, r0, r1, r2, r3, r4]) rfl ?_
    have hcf : ∀ g k, a' = some ⟨g, k, none⟩ → w.heap.size ≤ g ∧ g < WX.heap.size := fun g k e => ⟨(Hcap.out g k e).1, by have := (Hcap.out g k e).2.1; have := HZX.out; omega⟩
    exact ⟨_, rfl, bq, a', ⟨c', rfl⟩, sq.mono (by omega), hcf⟩
  · have hE' : (E != 0) = true := by rw [bne_iff_ne]; exact hE
    clear hres
    go_wp2
    have hq := h5.res.set5 (.int .u32 0) (.int .u64 0) (.int .i64 0) (.string ⟨#[]⟩) (.slice none 0 0)
    have bq := below_set5 h5.bel (b := w.heap.size + 2) (by omega) (.int .u32 0) (.int .u64 0) (.int .i64 0) (.string ⟨#[]⟩) (.slice none 0 0)
    obtain ⟨WX, HWX⟩ : ∃ WX, Hid (WX = store5 w4 (w.heap.size + 2) (.int .u32 0) (.int .u64 0) (.int .i64 0) (.string ⟨#[]⟩) (.slice none 0 0)) := ⟨_, rfl⟩
    rw [← HWX.out] at hq bq
    obtain ⟨r0, r1, r2, r3, r4⟩ := hq.cells5
    rw [show (((((w4.setCell ⟨w.heap.size + 2, 0, none⟩ (.int .u32 0)).setCell ⟨w.heap.size + 2, 1, none⟩ (.int .u64 0)).setCell ⟨w.heap.size + 2, 2, none⟩ (.int .i64 0)).setCell ⟨w.heap.size + 2, 3, none⟩ (.string ⟨#[]⟩)).setCell ⟨w.heap.size + 2, 4, none⟩ (.slice none 0 0)) = WX from HWX.out.symm]
    refine bodyPost_ret (v := .tuple #[.agg #[.int .u32 0, .int .u64 0, .int .i64 0, .string ⟨#[]⟩, .slice none 0 0], .int .i64 E]) (by simp [results, Tryz.results110, go_sem, r0, r1, r2, r3, r4]) rfl ?_
    exact ⟨_, rfl, bq, fun h => absurd h hE, fun _ => rfl⟩

end

end Go.Proofs.YtjemeopafkafgaaGreat

namespace Go.Proofs.YtjemeopafkafgaaGreat
open Go.RowKit Go.Sort
set_option linter.unusedVariables false
set_option linter.unusedSimpArgs false

theorem fmtQ_fits {p : SheetV} {o : OpV} (f : p.Fits) (hc : chkB o = true) (hk : o.kind = 1) : (fmtQ p o).Fits := by
  obtain ⟨_, _, h⟩ := chk_parts hc
  have h1 : (0 ≤ o.at' ∧ o.at' ≤ 255) ∧ o.S.size ≤ 32 ∧ o.old.size = 0 := by simpa [mayP, hk] using h
  exact ⟨f.num, by show (0 : Nat) < _; omega, h1.1.1, h1.1.2, h1.2.1, by show [].length ≤ 64; simp, by show o.S.size + slotSum [] ≤ 485; have : slotSum [] = 0 := rfl; omega⟩

theorem ne_of_len {α : Type} {l : List α} (h : 0 < l.length) : l ≠ [] := fun e => by rw [e] at h; simp at h

theorem does_own {p : SheetV} {o : OpV} (f : p.Fits) (ho : o.Ok) (hc : chkB o = true) : ∃ E q, ChangeDoesO p o E q ∧ (E = 0 → q.Fits ∧ q.num = p.num) := by
  by_cases k1 : o.kind = 1
  · exact ⟨0, _, change_fmtO ho k1, fun _ => ⟨fmtQ_fits f hc k1, rfl⟩⟩
  have hd := does f ho hc k1
  obtain ⟨hS, hT, hmay⟩ := chk_parts hc
  have hfit : doE p o = 0 → (doQ p o).Fits ∧ (doQ p o).num = p.num := fun he => ⟨(do_back f hc k1 he).1, by
    unfold doQ
    split
    · rfl
    split
    · rfl
    split
    · rfl
    split
    · rfl
    split
    · rfl
    · rfl⟩
  by_cases hE0 : doE p o ≠ 0
  · exact ⟨_, _, hd.ownE hE0, fun e => absurd e hE0⟩
  have hE : doE p o = 0 := by omega
  clear hE0
  rcases may_kinds hmay k1 with k | k | k | k | k | k
  · refine ⟨_, _, hd.own ?_, hfit⟩
    have : doQ p o = { p with slots := insL p.slots o.at'.toNat o.S } := by simp [doQ, k]
    rw [this]
    unfold insL
    exact ne_of_len (by simp; omega)
  · have e1 : doE p o = standE p o := by simp [doE, k]
    have e2 : doQ p o = { p with slots := p.slots.eraseIdx o.at'.toNat } := by simp [doQ, k]
    refine ⟨_, _, ?_, hfit⟩
    rw [e1, e2]
    exact change_remO f ho k (may3 hmay k).1.1
  · refine ⟨_, _, hd.own ?_, hfit⟩
    have e1 : doE p o = setE p o := by simp [doE, k]
    have e2 : doQ p o = { p with slots := p.slots.set o.at'.toNat o.S } := by simp [doQ, k]
    rw [e1] at hE
    rw [e2]
    have hs : standE p o = 0 := by
      unfold setE at hE
      split at hE
      · exact absurd hE (by assumption)
      · omega
    have := (standE_zero hs).1
    have h0 := (may4 hmay k).1
    exact ne_of_len (by simp; omega)
  · have e1 : doE p o = headE p o := by simp [doE, k]
    have e2 : doQ p o = { p with head := o.S } := by simp [doQ, k]
    refine ⟨_, _, ?_, hfit⟩
    rw [e1, e2]
    exact change_headO f ho k
  · refine ⟨_, _, hd.own ?_, hfit⟩
    have e1 : doE p o = putE p o := by simp [doE, k]
    have e2 : doQ p o = { p with slots := p.slots.set 0 (putS (p.slots.getD 0 ByteArray.empty) o.at'.toNat o.S) } := by simp [doQ, k]
    rw [e1] at hE
    rw [e2]
    have : p.slots.length ≠ 0 := fun e => by
      unfold putE at hE
      rw [if_pos (.inl e)] at hE
      cases hE
    exact ne_of_len (by simp; omega)
  · have e1 : doE p o = turnE p o := by simp [doE, k]
    have e2 : doQ p o = { p with kind := ((o.S.data.toList.getD 0 0).toNat : Int), head := o.S.extract 1 o.S.size } := by simp [doQ, k]
    refine ⟨_, _, ?_, hfit⟩
    rw [e1, e2]
    exact change_turnO f ho k (may7 hmay k).2.1.1

end Go.Proofs.YtjemeopafkafgaaGreat

namespace Go.Proofs.YtjemeopafkafgaaGreat
open Go.RowKit Go.Sort Go.Shelf
set_option linter.unusedVariables false
set_option linter.unusedSimpArgs false

theorem zeros_zerosB : zerosB zerosS.data.toList = true := by
  rw [zerosB_iff]
  show dzerosL = List.replicate dzerosL.length 0
  unfold dzerosL
  rw [List.length_replicate]

theorem dec_zeros : decE zerosS = 0 ∧ decP zerosS = sheet0 := by
  have h := zerosS_size
  have hE : decE zerosS = 0 := by
    unfold decE
    rw [if_neg (by omega), if_neg (by omega), if_pos zeros_zerosB]
  refine ⟨hE, ?_⟩
  unfold decP
  rw [if_neg (by rw [zeros_zerosB]; simp)]

end Go.Proofs.YtjemeopafkafgaaGreat

namespace Go.Proofs.YtjemeopafkafgaaGreat
open Go.RowKit Go.Sort Go.Shelf
set_option linter.unusedVariables false
set_option linter.unusedSimpArgs false

set_option maxHeartbeats 800000 in
set_option maxRecDepth 60000 in
theorem pget_arg {w : World} {p : Nat} (n : Nat) (hn : n < 4294967296) (h : n < 1 ∨ 2048 < n) :
    Calls Tryz.prog 92 #[.pointer (some ⟨p, 0, none⟩), .int .u32 n] w fun e w' => e = .returned (.tuple #[.agg #[.int .u32 0, .int .u64 0, .int .i64 0, .string ⟨#[]⟩, .slice none 0 0], .int .i64 1]) ∧ Below w.heap.size w w' := by
  have HMB : Hid (∀ W, Calls Tryz.prog 88 #[.int .u32 n] W fun x w' => x = .returned (.bool false) ∧ W = w') := fun W => by
    have := pmayBe_any n W hn
    rw [decide_eq_false (by omega)] at this
    exact this.mono fun x w' h => ⟨h.1, h.2.symm⟩
  go_enter Tryz.func92, Tryz.ntmps92
  go_wp2_with fail
  refine (HMB.out _).mono ?_
  rintro x w1 ⟨rfl, rfl⟩
  go_wp2
  refine bodyPost_ret (v := .tuple #[.agg #[.int .u32 0, .int .u64 0, .int .i64 0, .string ⟨#[]⟩, .slice none 0 0], .int .i64 1]) (by simp [results, Tryz.results92, go_sem]) rfl ?_
  exact ⟨rfl, (Below.refl _ _).alloc (Nat.le_refl _) _⟩

end Go.Proofs.YtjemeopafkafgaaGreat

namespace Go.Proofs.YtjemeopafkafgaaGreat
open Go.RowKit Go.Sort
set_option linter.unusedVariables false
set_option linter.unusedSimpArgs false

theorem fresh_read (q : Nat) : readD (newD 64) q = zerosS := rfl

theorem fresh_small {n : Nat} (h1 : 1 ≤ n) (h2 : n ≤ 64) : feE (newD 64) n = 0 ∧ feX (newD 64) n = ⟨n, 0, 0, ⟨#[]⟩, []⟩ := by
  have hc : checkE (newD 64).room n = 0 := by
    show checkE 64 n = 0
    unfold checkE
    rw [if_neg (by omega), if_neg (by omega)]
  have hb : rdB n zerosS = true := by
    unfold rdB
    rw [dec_zeros.1, dec_zeros.2]
    simp [sheet0]
  have hp : rdP n zerosS = ⟨n, 0, 0, ⟨#[]⟩, []⟩ := by
    unfold rdP
    rw [if_pos hb, dec_zeros.2]
    rfl
  have hg : givesB (rdP n zerosS) (rdP n zerosS) = true := by
    rw [hp]
    unfold givesB blankB sameB
    simp
  have hP : chP n zerosS zerosS = true := by
    unfold chP
    rw [hb, hg]
    rfl
  unfold feE feX
  rw [if_pos hc, if_pos hc, fresh_read, fresh_read]
  unfold chE chX
  rw [if_pos hP, if_pos hP, hp]
  exact ⟨rfl, rfl⟩

theorem fresh_big {n : Nat} (h1 : 64 < n) (h2 : n ≤ 2048) : feE (newD 64) n = 20 := by
  have hc : checkE (newD 64).room n = 20 := by
    show checkE 64 n = 20
    unfold checkE
    rw [if_neg (by omega), if_pos (by omega)]
  unfold feE
  rw [if_neg (by rw [hc]; decide), hc]

theorem blank_fits (n : Nat) (h : n ≤ 2048) : (⟨n, 0, 0, ⟨#[]⟩, []⟩ : SheetV).Fits := ⟨by show n < _; omega, by show (0 : Nat) < 18446744073709551616; decide, by show (0 : Int) ≤ 0; decide, by show (0 : Int) ≤ 255; decide, by show (ByteArray.mk #[]).size ≤ 32; decide, by show [].length ≤ 64; decide, by show (ByteArray.mk #[]).size + slotSum [] ≤ 485; decide⟩

theorem recU_parts {t : MtV} {c : ChgV} (hm : mayR (recU t c) = true) : c.page ≠ 0 ∧ chkB c.op = true := by
  unfold mayR at hm
  simp only [Bool.and_eq_true] at hm
  obtain ⟨_, _, _, h, _⟩ := hm
  rw [show changeB (recU t c) = true from rfl] at h
  simp only [Bool.not_true, Bool.false_or] at h
  unfold cmayB at h
  simp only [Bool.and_eq_true, decide_eq_true_eq] at h
  exact ⟨h.1, h.2.1⟩

theorem begP_ft (dp lp : Nat) : ∀ k, (begP dp lp k).fetched = 0
  | 0 => rfl
  | k + 1 => begP_ft dp lp k

theorem recU_size {t : MtV} {c : ChgV} (hm : mayR (recU t c) = true) : 1 ≤ (logS t c).size ∧ (logS t c).size ≤ 8192 := by
  have hM := may_parts hm
  obtain ⟨_, _, _, hS, hT, _⟩ := hM.change rfl
  have tl : ∀ s : ByteArray, s.size ≤ 512 → (textB s).length ≤ 514 := fun s h => by rw [text_len _ (by omega)]; omega
  have h1 : (textB c.op.S).length ≤ 514 := tl _ hS
  have h2 : (textB c.op.old).length ≤ 514 := tl _ hT
  have e : (logS t c).size = (encR (recU t c)).length := by simp [logS, ByteArray.size]
  rw [e]
  unfold encR
  simp only [List.length_append, putL_length]
  have hn : (if nextB (recU t c) then putL (recU t c).next 8 else []).length ≤ 8 := by split <;> simp [putL_length]
  have hc : (if changeB (recU t c) then changeL (recU t c) else []).length ≤ 2000 := by
    split
    · unfold changeL
      simp only [List.length_append, putL_length]
      show 4 + (1 + (2 + ((textB c.op.S).length + ((textB c.op.old).length + 1)))) ≤ 2000
      omega
    · simp
  have hk : (if keyB (recU t c) then rkeyL (recU t c) else []).length ≤ 1000 := by
    split
    · rename_i hkb
      have h3 : (textB c.key).length ≤ 514 := tl _ (show c.key.size ≤ 512 by have := (hM.key hkb).2.1; show (recU t c).key.size ≤ 512; omega)
      unfold rkeyL
      simp only [List.length_append, putL_length]
      show 2 + ((textB c.key).length + (4 + (2 + 1))) ≤ 1000
      omega
    · simp
  have hl : (if listsB (recU t c) then txsL (recU t c).txs ++ disL (recU t c).dirty else []).length = 0 := by
    rw [show listsB (recU t c) = false from rfl]
    simp
  omega

/-- What Log leaves: an end, and the transaction active. -/
structure LogEnd (w : World) (m p : Nat) (X : Int → Nat) (A : Nat → Prop) (n : Int) (M : MgG) (e : Ending) (w' : World) : Prop where
  out : ∃ (v : Int) (E : Int) (A' : Nat → Prop) (P' : PG) (l' : LG) (d' : DG) (t' : MtV), e = .returned (.tuple #[.int .u64 v, .int .i64 E]) ∧ MSys w' m p X A' P' l' d' (M.set n t') ∧ t'.state = 1 ∧ Moves A A' w w'

section
variable {w : World} {m p dp lp : Nat} {X : Int → Nat} {A : Nat → Prop}

theorem born_T : mg0.born.T 1 = some (fresh 1) := by simp [MgG.born, mg0]

def log1 (dp : Nat) : LG := { log0 dp with kept := 128 }

theorem log_err (h : MSys w m p X A (begP dp lp 5) (log1 dp) (newD 64) mg0.born) (c : ChgV) (hok : ∀ wx, (recU (fresh 1) c).Ok wx none none) (hmay : mayR (recU (fresh 1) c) = true) {E : Int} (hE : E ≠ 0)
    (hchg : ∀ (rm : Nat) wx A1 caps, MSys wx m p X A1 (begP dp lp 5) { log1 dp with kept := (log1 dp).kept + rm } (newD 64) mg0.born → Calls Tryz.prog 54 #[.pointer (some ⟨m, 0, none⟩), .agg ((recU (fresh 1) c).cells none none 0 0), .func (.func 55) #[] caps] wx fun e w' => e = .returned (.tuple #[.int .u64 0, .int .i64 E]) ∧ ∃ A' P1 d1, MSys w' m p X A' P1 { log1 dp with kept := (log1 dp).kept + rm } d1 mg0.born ∧ Moves A1 A' wx w') :
    Calls Tryz.prog 14 #[.pointer (some ⟨m, 0, none⟩), .int .i64 1, .agg c.cells] w (LogEnd w m p X A 1 mg0.born) := by
  have hsz := recU_size hmay
  have h0 : (log1 dp).bytes.length = 0 := rfl
  have h1 : (log1 dp).kept = 128 := rfl
  refine (tlog_err h 1 (by omega) (by omega) born_T rfl c hok hmay hsz (E := E) (by rw [bne_iff_ne]; exact hE) (by omega) (by omega) hchg).mono ?_
  rintro e w' ⟨rfl, A', P1, d1, g, mv⟩
  exact ⟨0, E, A', P1, _, d1, fresh 1, rfl, by rw [MgG.set_self born_T]; exact g, rfl, mv⟩

theorem log_page (h : MSys w m p X A (begP dp lp 5) (log1 dp) (newD 64) mg0.born) (c : ChgV) (hok : ∀ wx, (recU (fresh 1) c).Ok wx none none) (hop : c.op.Ok) (hmay : mayR (recU (fresh 1) c) = true) (h1 : 1 ≤ c.page) (h2 : c.page ≤ 2048) (x : SheetV) (hfit : x.Fits) (hx : x.num = c.page) (P1 : PG) (hz : P1.z ≤ 1000000) (hPF : P1.F c.page ≠ none)
    (hget : ∀ k wx A1, MSys wx m p X A1 (begP dp lp 5) { log1 dp with kept := k } (newD 64) mg0.born → Calls Tryz.prog 92 #[.pointer (some ⟨p, 0, none⟩), .int .u32 c.page] wx (GtOut wx m p X A1 x P1 { log1 dp with kept := k } (newD 64) mg0.born)) :
    Calls Tryz.prog 14 #[.pointer (some ⟨m, 0, none⟩), .int .i64 1, .agg c.cells] w (LogEnd w m p X A 1 mg0.born) := by
  have hsz := recU_size hmay
  have h0 : (log1 dp).bytes.length = 0 := rfl
  have hk0 : (log1 dp).kept = 128 := rfl
  have hchk := (recU_parts hmay).2
  obtain ⟨E, q, hd, hq⟩ := does_own hfit hop hchk
  by_cases hE : E = 0
  · subst hE
    obtain ⟨hqf, hqn⟩ := hq rfl
    have hap : ∀ (kk : Nat) wx a c', x.Ok wx a → Calls Tryz.prog 110 #[x.val a c', c.op.val, .int .u64 ((({ log1 dp with kept := kk } : LG).bytes.length + 1 : Nat) : Int)] wx (ApOut wx q (({ log1 dp with kept := kk } : LG).bytes.length + 1)) := by
      intro kk wx a c' hx
      refine (apply_ofO (c := c') 1 hx hfit hop hchk hd).mono ?_
      rintro e w' ⟨Xv, rfl, bx, h0, _⟩
      obtain ⟨a', c'', rfl, hs, hn⟩ := h0 rfl
      exact ⟨⟨a', c'', rfl, bx, hs, hn⟩⟩
    have hql : ({ q with lsn := 1 } : SheetV).Fits := ⟨hqf.num, by show (1 : Nat) < _; omega, hqf.kind0, hqf.kind1, hqf.head, hqf.len, hqf.fits⟩
    by_cases hu : c.undo = 0
    · refine (tlog_none h 1 (by omega) (by omega) born_T rfl c hok hmay hu hsz h1 h2 x hfit (fun wx A1 g => hget 128 wx A1 g) (hap 128) hql (hqn.trans hx) hz hPF (by show (log1 dp).starts.length ≤ _; exact Nat.zero_le _) (by omega) (by omega) (by show (logS (fresh 1) c).size + 12 + 128 + 0 ≤ _; omega) (by show 128 ≤ _; omega)).mono ?_
      rintro e w' ⟨rfl, A', g, mv⟩
      exact ⟨_, 0, A', _, _, _, _, rfl, g, rfl, mv⟩
    · refine (tlog_gen h 1 (by omega) (by omega) born_T rfl c hok hmay hu hsz h1 h2 x hfit (fun wx A1 g => hget _ wx A1 g) (hap _) hql (hqn.trans hx) hz hPF (by show (log1 dp).starts.length ≤ _; exact Nat.zero_le _) (by omega) (by omega) (by show (logS (fresh 1) c).size + 12 + (128 + ((logS (fresh 1) c).size + 172)) + 0 ≤ _; omega) (by show 128 ≤ _; omega) (fun i j hi _ => absurd hi (Nat.not_lt_zero j)) (by show 0 ≤ _; omega) (by show owedN [] _ ≤ _; simp [owedN])).mono ?_
      rintro e w' ⟨rfl, A', g, mv⟩
      exact ⟨_, 0, A', _, _, _, _, rfl, g, rfl, mv⟩
  · refine log_err h c hok hmay hE fun rm wx A1 caps g => ?_
    refine (tchange_noap g (recU (fresh 1) c) none none 0 0 x hfit h1 h2 (fun wy by' => hget _ wy A1 (g.below by')) (E := E) (by rw [bne_iff_ne]; exact hE) (fun wy a c' hxo => ?_) (by show (0 : Nat) ≤ _; omega) _ caps).mono ?_
    · refine (apply_ofO (c := c') 1 hxo hfit hop hchk hd).mono ?_
      rintro e w' ⟨Xv, rfl, bx, _, hz⟩
      rw [hz hE]
      exact ⟨rfl, bx⟩
    · rintro e w' ⟨rfl, A', g', mv⟩
      exact ⟨rfl, A', P1, _, g', mv⟩

/-- Log of any change that may be. -/
theorem log_any (h : MSys w m p X A (begP dp lp 5) (log1 dp) (newD 64) mg0.born) (c : ChgV) (hok : ∀ wx, (recU (fresh 1) c).Ok wx none none) (hop : c.op.Ok) (hmay : mayR (recU (fresh 1) c) = true) (hpg : c.page < 4294967296) :
    Calls Tryz.prog 14 #[.pointer (some ⟨m, 0, none⟩), .int .i64 1, .agg c.cells] w (LogEnd w m p X A 1 mg0.born) := by
  have h0 := (recU_parts hmay).1
  by_cases k1 : 2048 < c.page
  · refine log_err h c hok hmay (E := 1) (by decide) fun rm wx A1 caps g => ?_
    refine (tchange_noget g (recU (fresh 1) c) none none 0 0 (E := 1) rfl (fun wy _ => pget_arg c.page hpg (.inr k1)) _ caps).mono ?_
    rintro e w' ⟨rfl, b⟩
    exact ⟨rfl, A1, _, _, g.below b, Moves.of_kept (Kept.of_below b)⟩
  by_cases k2 : 64 < c.page
  · refine log_err h c hok hmay (E := 20) (by decide) fun rm wx A1 caps g => ?_
    refine (tchange_noget g (recU (fresh 1) c) none none 0 0 (E := 20) rfl (fun wy b => ?_) _ caps).mono ?_
    · obtain ⟨A2, hS, _, _⟩ := (g.below b).sys
      have := get_err hS c.page (by omega) (by omega) (by rw [begP_F, if_neg (by omega)]) rfl (fun q => by rw [fresh_read]; have := zerosS_size; omega) (by rw [fresh_big k2 (by omega)]; decide)
      rw [fresh_big k2 (by omega)] at this
      exact this
    · rintro e w' ⟨rfl, b⟩
      exact ⟨rfl, A1, _, _, g.below b, Moves.of_kept (Kept.of_below b)⟩
  by_cases k3 : c.page ≤ 5
  · have hF : (begP dp lp 5).F c.page = some ⟨bSheet c.page, 1⟩ := by rw [begP_F, if_pos ⟨by omega, k3⟩]
    exact log_page h c hok hop hmay (by omega) (by omega) (bSheet c.page) (bSheet_fits _ (by omega) (by omega)) rfl (begP dp lp 5) (by rw [begP_z]; omega) (by rw [hF]; exact Option.some_ne_none _) fun k wx A1 g => mget_here g c.page (by omega) (by omega) hF
  · have hF : (begP dp lp 5).F c.page = none := by rw [begP_F, if_neg (by omega)]
    obtain ⟨e1, e2⟩ := fresh_small (n := c.page) (by omega) (by omega)
    refine log_page h c hok hop hmay (by omega) (by omega) ⟨c.page, 0, 0, ⟨#[]⟩, []⟩ (blank_fits _ (by omega)) rfl (getP (begP dp lp 5) (feX (newD 64) c.page)) (by show (begP dp lp 5).z + 1 ≤ _; rw [begP_z]; omega) (by rw [show (getP (begP dp lp 5) (feX (newD 64) c.page)).F c.page = some ⟨feX (newD 64) c.page, 0⟩ from by show setFr _ _ _ _ = _; rw [e2]; simp [setFr]]; exact Option.some_ne_none _) fun k wx A1 g => ?_
    have := mget_new g c.page (by omega) (by omega) hF rfl (fun q => by rw [fresh_read]; have := zerosS_size; omega) e1 (room_roomy (by rw [begP_z, begP_most]; omega) (by rw [begP_most]; omega)) hF (by rw [begP_z]; omega) (by rw [begP_ft]; omega)
    rw [e2] at this ⊢
    exact this

end

end Go.Proofs.YtjemeopafkafgaaGreat
