/-
  The walk of rec.Decode of any bytes.
-/
import Derived.Test.YtgkfdakieebnmaaGreatRecDec0J
import Derived.Test.YtgkfdakieebnmaaGreatRecCheck0J
set_option linter.unusedVariables false
set_option linter.unusedSimpArgs false
namespace Go.Proofs.YtgkfdakieebnmaaGreat
open Go.RowKit Go.Sort

def rnextF (s : ByteArray) (p : Nat) (e : Int) (R : RecV) : Nat × Int × RecV :=
  if nextB R then ((numF s p e 8).1, (numF s p e 8).2.1, { R with next := (numF s p e 8).2.2 }) else (p, e, R)

def changeG (s : ByteArray) (p : Nat) (e : Int) (R : RecV) : Nat × Int × RecV :=
  let a := numF s p e 4
  let b := numF s a.1 a.2.1 1
  let c := numF s b.1 b.2.1 2
  let d := textF s c.1 c.2.1 65535
  let f := textF s d.1 d.2.1 65535
  let g := numF s f.1 f.2.1 1
  (g.1, g.2.1, { R with page := a.2.2, op := ⟨b.2.2, c.2.2, ⟨d.2.2.toArray⟩, ⟨f.2.2.toArray⟩⟩, undo := g.2.2 })

def keyG (s : ByteArray) (p : Nat) (e : Int) (R : RecV) : Nat × Int × RecV :=
  let a := numF s p e 2
  let b := textF s a.1 a.2.1 64
  let c := numF s b.1 b.2.1 4
  let d := numF s c.1 c.2.1 2
  let f := boolF s d.1 d.2.1
  (f.1, f.2.1, { R with index := a.2.2, key := ⟨b.2.2.toArray⟩, rpage := c.2.2, rslot := d.2.2, live := f.2.2 })

def listsG (s : ByteArray) (p : Nat) (e : Int) (R : RecV) : Nat × Int × RecV :=
  let a := countF s p e 64
  let b := txK s a.1 a.2.1 a.2.2
  let c := countF s b.1 b.2.1 256
  let d := dirK s c.1 c.2.1 c.2.2
  (d.1, d.2.1, { R with txs := b.2.2, dirty := d.2.2 })

def changeF (s : ByteArray) (p : Nat) (e : Int) (R : RecV) : Nat × Int × RecV := if changeB R then changeG s p e R else (p, e, R)
def keyF (s : ByteArray) (p : Nat) (e : Int) (R : RecV) : Nat × Int × RecV := if keyB R then keyG s p e R else (p, e, R)
def listsF (s : ByteArray) (p : Nat) (e : Int) (R : RecV) : Nat × Int × RecV := if listsB R then listsG s p e R else (p, e, R)

def headF (s : ByteArray) : Nat × Int × RecV :=
  let a := numF s 0 0 1
  let b := numF s a.1 a.2.1 4
  let c := numF s b.1 b.2.1 8
  (c.1, c.2.1, plainV a.2.2 b.2.2 c.2.2)

def readR (s : ByteArray) : Nat × Int × RecV :=
  let a := headF s
  let b := rnextF s a.1 a.2.1 a.2.2
  let c := changeF s b.1 b.2.1 b.2.2
  let d := keyF s c.1 c.2.1 c.2.2
  listsF s d.1 d.2.1 d.2.2

theorem DecAt.take {w wr wx : World} {s : ByteArray} {p p' : Nat} {e e' : Int} {cs cs' : Array Value} (h : DecAt w wr s p e cs) (t : RTakeAt wr wx (w.heap.size + 1) (w.heap.size + 1 + 1) s p' e' cs') : DecAt w wx s p' e' cs' :=
  ⟨⟨t.os.trans h.bel.os, t.tape.trans h.bel.tape, t.output.trans h.bel.output, Nat.le_trans h.bel.size t.size, fun k hk => (t.block k (Nat.lt_of_lt_of_le hk h.bel.size) (by omega) (by omega)).trans (h.bel.block k hk)⟩,
    (t.block _ h.res.lt (by omega) (by omega)).trans h.res, t.rd, t.out⟩

theorem countF_le (s : ByteArray) (p : Nat) (e : Int) (m : Nat) : (countF s p e m).2.2 ≤ m := by
  unfold countF
  split
  · exact Nat.zero_le _
  · omega

theorem txs_of_row {w : World} {bs : Nat} {L : List TxV} (h : RowV w bs (L.length * 4) (cellT L)) (hb : bs < w.heap.size) : TxsAt w (some ⟨bs, 0, none⟩) L := by
  refine .inr ⟨bs, 0, rfl, hb, fun i hi => ?_⟩
  have a (j : Nat) (hj : j < 4) := (h (i * 4 + j) (by omega)).1
  have c0 := a 0 (by omega)
  have c1 := a 1 (by omega)
  have c2 := a 2 (by omega)
  have c3 := a 3 (by omega)
  unfold cellT at c0 c1 c2 c3
  rw [if_pos (by omega), show (i * 4 + 0) / 4 = i by omega, List.getElem?_eq_getElem hi] at c0
  rw [if_neg (by omega), if_pos (by omega), show (i * 4 + 1) / 4 = i by omega, List.getElem?_eq_getElem hi] at c1
  rw [if_neg (by omega), if_neg (by omega), if_pos (by omega), show (i * 4 + 2) / 4 = i by omega, List.getElem?_eq_getElem hi] at c2
  rw [if_neg (by omega), if_neg (by omega), if_neg (by omega), show (i * 4 + 3) / 4 = i by omega, List.getElem?_eq_getElem hi] at c3
  simp only [Nat.zero_add]
  exact ⟨c0, c1, c2, c3⟩

theorem dis_of_row {w : World} {bs : Nat} {L : List DiV} (h : RowV w bs (L.length * 2) (cellD L)) (hb : bs < w.heap.size) : DisAt w (some ⟨bs, 0, none⟩) L := by
  refine .inr ⟨bs, 0, rfl, hb, fun i hi => ?_⟩
  have c0 := (h (i * 2) (by omega)).1
  have c1 := (h (i * 2 + 1) (by omega)).1
  unfold cellD at c0 c1
  rw [if_pos (by omega), show (i * 2) / 2 = i by omega, List.getElem?_eq_getElem hi] at c0
  rw [if_neg (by omega), show (i * 2 + 1) / 2 = i by omega, List.getElem?_eq_getElem hi] at c1
  simp only [Nat.zero_add]
  exact ⟨c0, c1⟩

def ListsHeld (B : Nat) (wx : World) (ta da : Option Addr) (R : RecV) : Prop :=
  ∀ wx' : World, (∀ g, B < g → g < wx.heap.size → wx'.heap[g]? = wx.heap[g]?) → wx.heap.size ≤ wx'.heap.size → TxsAt wx' ta R.txs ∧ DisAt wx' da R.dirty

theorem ListsHeld.to {B : Nat} {wx wy : World} {ta da : Option Addr} {R : RecV} (h : ListsHeld B wx ta da R) (hk : ∀ g, B < g → g < wx.heap.size → wy.heap[g]? = wx.heap[g]?) (hz : wx.heap.size ≤ wy.heap.size) : ListsHeld B wy ta da R :=
  fun wx' hk' hz' => h wx' (fun g hg hg' => (hk' g hg (by omega)).trans (hk g hg hg')) (by omega)

theorem RowV.same {w w' : World} {b N : Nat} {f : Nat → Value} (h : RowV w b N f) (e : w'.heap[b]? = w.heap[b]?) : RowV w' b N f :=
  fun j hj => ⟨(World.cell?_of_block (a := ⟨b, j, none⟩) e).trans (h j hj).1, (World.frozen?_of_block (a := ⟨b, j, none⟩) e).trans (h j hj).2⟩

def NoLists (R : RecV) : Prop := R.txs = [] ∧ R.dirty = []
theorem nextF_no {s : ByteArray} {p p' : Nat} {e e' : Int} {R R' : RecV} (h : NoLists R) (k : rnextF s p e R = (p', e', R')) : NoLists R' := by
  unfold rnextF at k
  split at k <;> (simp only [Prod.mk.injEq] at k; obtain ⟨_, _, rfl⟩ := k; exact h)
theorem changeF_no {s : ByteArray} {p p' : Nat} {e e' : Int} {R R' : RecV} (h : NoLists R) (k : changeF s p e R = (p', e', R')) : NoLists R' := by
  unfold changeF changeG at k
  split at k <;> (simp only [Prod.mk.injEq] at k; obtain ⟨_, _, rfl⟩ := k; exact h)
theorem keyF_no {s : ByteArray} {p p' : Nat} {e e' : Int} {R R' : RecV} (h : NoLists R) (k : keyF s p e R = (p', e', R')) : NoLists R' := by
  unfold keyF keyG at k
  split at k <;> (simp only [Prod.mk.injEq] at k; obtain ⟨_, _, rfl⟩ := k; exact h)

set_option maxHeartbeats 3200000 in
set_option maxRecDepth 8000 in
theorem decode_good (s : ByteArray) (w : World) (hs : s.size ≤ 281474976710656) {p0 p1 p2 p3 p4 p5 p6 : Nat} {e0 e1 e2 e3 e4 e5 e6 : Int} {k x q : Nat} {R1 R2 R3 R4 : RecV} (h0 : numF s 0 0 1 = (p0, e0, k)) (h1 : numF s p0 e0 4 = (p1, e1, x)) (h2 : numF s p1 e1 8 = (p2, e2, q))
    (h3 : rnextF s p2 e2 (plainV k x q) = (p3, e3, R1)) (h4 : changeF s p3 e3 R1 = (p4, e4, R2)) (h5 : keyF s p4 e4 R2 = (p5, e5, R3)) (h6 : listsF s p5 e5 R3 = (p6, e6, R4)) (he : endE s p6 e6 = 0) (hc : rcheckE R4 = 0) (hok : ∀ wx ta da, TxsAt wx ta R4.txs → DisAt wx da R4.dirty → R4.Ok wx ta da) :
    Calls Tryz.prog 22 #[.string s] w fun e w' => ∃ ta da tc dc, e = .returned (.tuple #[.agg (R4.cells ta da tc dc), .int .i64 0]) ∧ Below w.heap.size w w' ∧ TxsAt w' ta R4.txs ∧ DisAt w' da R4.dirty := by
  obtain ⟨W, HW⟩ : ∃ W, Hid (W = (((w.alloc (.cells zeroCellsR 64)).alloc (.cells #[.string s, .int .i64 0, .int .i64 0] 202)).alloc (.cells zeroCellsR 64))) := ⟨_, rfl⟩
  have HS0 : Hid (DecAt w W s 0 0 zeroCellsR) := by show DecAt _ _ _ _ _ _; rw [HW.out]; exact DecAt.start w s (by omega)
  have hk8 : k < 256 := by have := numF_lt s 0 0 1; rw [show (((1 : Nat) : Int)) = 1 from rfl, h0] at this; exact this
  have hx32 : x < 4294967296 := by have := numF_lt s p0 e0 4; rw [show (((4 : Nat) : Int)) = 4 from rfl, h1] at this; exact this
  have hqn : q < 18446744073709551616 := by have := numF_lt s p1 e1 8; rw [show (((8 : Nat) : Int)) = 8 from rfl, h2] at this; exact this
  have HR3 : Hid (NoLists R3) := keyF_no (changeF_no (nextF_no ⟨rfl, rfl⟩ h3) h4) h5
  have NE := hidr he
  have NC := hidr hc
  have HOK := hidr hok
  clear he hc hok
  have N0 := hidr h0
  have N1 := hidr h1
  have N2 := hidr h2
  have N3 := hidr h3
  have N4 := hidr h4
  have N5 := hidr h5
  have N6 := hidr h6
  clear h0 h1 h2 h3 h4 h5 h6
  have HNR := hidr (new_reader s (w.alloc (.cells zeroCellsR 64)))
  unfold zeroCellsR at HNR
  go_enter Tryz.func22, Tryz.ntmps22
  go_wp2_with fail
  refine HNR.out.mono ?_
  rintro e w1 ⟨rfl, rfl⟩
  go_upto_region 3 with fail
  rw [show ((w.alloc (.cells #[.int .i64 0, .int .i64 0, .int .u64 0, .int .u64 0, .int .u32 0, .int .i64 0, .int .i64 0, .string ⟨#[]⟩, .string ⟨#[]⟩, .int .i64 0, .int .i64 0, .string ⟨#[]⟩, .int .u32 0, .int .i64 0, .bool false, .slice none 0 0, .slice none 0 0] 64)).alloc (.cells #[.string s, .int .i64 0, .int .i64 0] 202)).alloc (.cells #[.int .i64 0, .int .i64 0, .int .u64 0, .int .u64 0, .int .u32 0, .int .i64 0, .int .i64 0, .string ⟨#[]⟩, .string ⟨#[]⟩, .int .i64 0, .int .i64 0, .string ⟨#[]⟩, .int .u32 0, .int .i64 0, .bool false, .slice none 0 0, .slice none 0 0] 64) = W from HW.out.symm]
  clear HW HNR
  have q0 : IntKind.i64.wrap (k : Int) = (k : Int) := by rw [IntKind.wrap_i64]; omega
  have q1 : IntKind.i64.wrap (x : Int) = (x : Int) := by rw [IntKind.wrap_i64]; omega
  have HR0 : Hid (Calls Tryz.prog 59 #[.pointer (some ⟨w.heap.size + 1, 0, none⟩), .int .i64 1] W fun y w' => y = .returned (.int .u64 (k : Nat)) ∧ IsReader w' (w.heap.size + 1) s p0 e0 ∧ Only (w.heap.size + 1) W w') := by
    have := number_any HS0.out.rd 1
    rw [N0.out] at this
    exact this
  go_wp2_with fail
  refine HR0.out.mono ?_
  rintro e w2 ⟨rfl, hr0, o0⟩
  have HX0 := hidr (HS0.out.only o0 hr0)
  clear HR0 HS0 hr0 o0
  have x0 := HX0.out.out.cell 0
  have f0 := HX0.out.out.frozen 0
  obtain ⟨W2, HW0⟩ : ∃ y, Hid (y = w2.setCell ⟨w.heap.size + 1 + 1, 0, none⟩ (.int .i64 (k : Int))) := ⟨_, rfl⟩
  have HS1 := hidr (HX0.out.set 0 (.int .i64 (k : Int)))
  rw [← HW0.out] at HS1
  go_upto_region 4 with fail
  rw [← HW0.out]
  clear HW0 HX0 x0 f0
  have HR1 : Hid (Calls Tryz.prog 59 #[.pointer (some ⟨w.heap.size + 1, 0, none⟩), .int .i64 4] W2 fun y w' => y = .returned (.int .u64 (x : Nat)) ∧ IsReader w' (w.heap.size + 1) s p1 e1 ∧ Only (w.heap.size + 1) W2 w') := by
    have := number_any HS1.out.rd 4
    rw [N1.out] at this
    exact this
  go_wp2_with fail
  refine HR1.out.mono ?_
  rintro e w3 ⟨rfl, hr1, o1⟩
  have HX1 := hidr (HS1.out.only o1 hr1)
  clear HR1 HS1 hr1 o1
  have x1 := HX1.out.out.cell 1
  have f1 := HX1.out.out.frozen 1
  obtain ⟨W3, HW1⟩ : ∃ y, Hid (y = w3.setCell ⟨w.heap.size + 1 + 1, 1, none⟩ (.int .i64 (x : Int))) := ⟨_, rfl⟩
  have HS2 := hidr (HX1.out.set 1 (.int .i64 (x : Int)))
  rw [← HW1.out] at HS2
  go_upto_region 5 with fail
  rw [← HW1.out]
  clear HW1 HX1 x1 f1
  have HR2 : Hid (Calls Tryz.prog 59 #[.pointer (some ⟨w.heap.size + 1, 0, none⟩), .int .i64 8] W3 fun y w' => y = .returned (.int .u64 (q : Nat)) ∧ IsReader w' (w.heap.size + 1) s p2 e2 ∧ Only (w.heap.size + 1) W3 w') := by
    have := number_any HS2.out.rd 8
    rw [N2.out] at this
    exact this
  go_wp2_with fail
  refine HR2.out.mono ?_
  rintro e w4 ⟨rfl, hr2, o2⟩
  have HX2 := hidr (HS2.out.only o2 hr2)
  clear HR2 HS2 hr2 o2
  have x2 := HX2.out.out.cell 2
  have f2 := HX2.out.out.frozen 2
  obtain ⟨W4, HW2⟩ : ∃ y, Hid (y = w4.setCell ⟨w.heap.size + 1 + 1, 2, none⟩ (.int .u64 (q : Int))) := ⟨_, rfl⟩
  have HS3 := hidr (HX2.out.set 2 (.int .u64 (q : Int)))
  rw [← HW2.out] at HS3
  go_upto_region 6 with fail
  rw [← HW2.out]
  clear HW2 HX2 x2 f2
  clear q0 q1 N0 N1 N2
  have HD : Hid (DecAt w W4 s p2 e2 ((plainV k x q).cells none none 0 0)) := HS3.out
  clear HS3
  obtain ⟨R, HRD⟩ : ∃ r, Hid (r = plainV k x q) := ⟨_, rfl⟩
  rw [← HRD.out] at HD N3
  have HN : Hid (∀ R wx, Calls Tryz.prog 60 #[.agg (R.cells none none 0 0)] wx fun e w' => e = .returned (.bool (nextB R)) ∧ Below wx.heap.size wx w') := fun R wx => hasNext_any R none none 0 0 wx
  have HC : Hid (∀ R wx, Calls Tryz.prog 61 #[.agg (R.cells none none 0 0)] wx fun e w' => e = .returned (.bool (changeB R)) ∧ Below wx.heap.size wx w') := fun R wx => hasChange_any R none none 0 0 wx
  have HK : Hid (∀ R wx, Calls Tryz.prog 63 #[.agg (R.cells none none 0 0)] wx fun e w' => e = .returned (.bool (keyB R)) ∧ Below wx.heap.size wx w') := fun R wx => hasKey_any R none none 0 0 wx
  have HL : Hid (∀ R wx, Calls Tryz.prog 65 #[.agg (R.cells none none 0 0)] wx fun e w' => e = .returned (.bool (listsB R)) ∧ Below wx.heap.size wx w') := fun R wx => hasLists_any R none none 0 0 wx
  refine wp_region_lit ?_
  refine wpList_loadRow rfl _ _ rfl (w.heap.size + 1 + 1) rfl (R.cells none none 0 0) _ (0, 0) HD.out.out _ Tryz.underlying64 rfl (by kernel_rfl) ?_
  go_wp2_with fail
  refine (HN.out _ _).mono ?_
  rintro e y0 ⟨rfl, b0⟩
  have HD0 := hidr (HD.out.below b0)
  clear HD b0
  go_upto_if 20 with fail
  go_cut [] from 19 to 23 (fun wx => Hid (DecAt w wx s p3 e3 (R1.cells none none 0 0)))
  case first =>
    cases hb : nextB R with
    | false =>
      go_wp2_with fail
      go_meet
      case rel =>
        have h3 := N3.out
        unfold rnextF at h3
        simp only [hb, if_false, Bool.false_eq_true, Prod.mk.injEq] at h3
        obtain ⟨rfl, rfl, rfl⟩ := h3
        exact HD0
    | true =>
      have h3 := N3.out
      unfold rnextF at h3
      simp only [hb, if_true, Prod.mk.injEq] at h3
      obtain ⟨⟨pq, eq, xq⟩, HA⟩ : ∃ X, Hid (numF s p2 e2 8 = X) := ⟨_, rfl⟩
      rw [HA.out] at h3
      simp only at h3
      obtain ⟨rfl, rfl, hR1⟩ := h3
      have HR1 := hidr hR1
      clear hR1
      have HR : Hid (Calls Tryz.prog 59 #[.pointer (some ⟨w.heap.size + 1, 0, none⟩), .int .i64 8] y0 fun y w' => y = .returned (.int .u64 (xq : Nat)) ∧ IsReader w' (w.heap.size + 1) s pq eq ∧ Only (w.heap.size + 1) y0 w') := by
        have := number_any HD0.out.rd 8
        rw [HA.out] at this
        exact this
      go_wp2_with fail
      refine HR.out.mono ?_
      rintro e y1 ⟨rfl, hr1, o1⟩
      have HX := hidr (HD0.out.only o1 hr1)
      have xx := HX.out.out.cell 3
      have ff := HX.out.out.frozen 3
      clear HR HD0 hr1 o1
      go_wp2_with fail
      go_meet
      case rel =>
        have := HX.out.set 3 (.int .u64 (xq : Int))
        rw [← HR1.out]
        exact this
  case rest =>
    have HD1 := hcut
    clear HD0 N3 HRD hk8 hx32 hqn
    rename_i v1
    go_upto_region 8 with fail
    refine wp_region_lit ?_
    refine wpList_loadRow rfl _ _ rfl (w.heap.size + 1 + 1) rfl (R1.cells none none 0 0) _ (0, 0) HD1.out.out _ Tryz.underlying64 rfl (by kernel_rfl) ?_
    go_wp2_with fail
    refine (HC.out _ _).mono ?_
    rintro e y1 ⟨rfl, b1⟩
    have HE1 := hidr (HD1.out.below b1)
    clear HD1 b1
    go_upto_if 25 with fail
    go_cut [] from 24 to 27 (fun wx => Hid (DecAt w wx s p4 e4 (R2.cells none none 0 0)))
    case first =>
      cases hb : changeB R1 with
      | false =>
        go_wp2_with fail
        go_meet
        case rel =>
          have h3 := N4.out
          unfold changeF at h3
          simp only [hb, if_false, Bool.false_eq_true, Prod.mk.injEq] at h3
          obtain ⟨rfl, rfl, rfl⟩ := h3
          exact HE1
      | true =>
        have h3 := N4.out
        unfold changeF at h3
        simp only [hb, if_true, changeG] at h3
        simp only [Prod.mk.injEq] at h3
        obtain ⟨rfl, rfl, rfl⟩ := h3
        have HT := hidr (takeChange_any HE1.out.rd R1 none none 0 0 (by omega) HE1.out.out rfl rfl rfl rfl rfl rfl)
        go_wp2_with fail
        refine HT.out.mono ?_
        rintro e t1 ⟨rfl, ht⟩
        have HX := hidr (HE1.out.take ht)
        clear HT HE1 ht
        go_wp2_with fail
        go_meet
        case rel => exact HX
    case rest =>
      have HD2 := hcut
      clear HE1 N4
      go_upto_region 10 with fail
      refine wp_region_lit ?_
      refine wpList_loadRow rfl _ _ rfl (w.heap.size + 1 + 1) rfl (R2.cells none none 0 0) _ (0, 0) HD2.out.out _ Tryz.underlying64 rfl (by kernel_rfl) ?_
      go_wp2_with fail
      refine (HK.out _ _).mono ?_
      rintro e y2 ⟨rfl, b1⟩
      have HE2 := hidr (HD2.out.below b1)
      clear HD2 b1
      go_upto_if 29 with fail
      go_cut [] from 28 to 31 (fun wx => Hid (DecAt w wx s p5 e5 (R3.cells none none 0 0)))
      case first =>
        cases hb : keyB R2 with
        | false =>
          go_wp2_with fail
          go_meet
          case rel =>
            have h3 := N5.out
            unfold keyF at h3
            simp only [hb, if_false, Bool.false_eq_true, Prod.mk.injEq] at h3
            obtain ⟨rfl, rfl, rfl⟩ := h3
            exact HE2
        | true =>
          have h3 := N5.out
          unfold keyF at h3
          simp only [hb, if_true, keyG] at h3
          simp only [Prod.mk.injEq] at h3
          obtain ⟨rfl, rfl, rfl⟩ := h3
          have HT := hidr (takeKey_any HE2.out.rd R2 none none 0 0 (by omega) HE2.out.out rfl rfl rfl rfl rfl)
          go_wp2_with fail
          refine HT.out.mono ?_
          rintro e t1 ⟨rfl, ht⟩
          have HX := hidr (HE2.out.take ht)
          clear HT HE2 ht
          go_wp2_with fail
          go_meet
          case rel => exact HX
      case rest =>
        have HD3 := hcut
        clear HE2 N5
        go_upto_region 12 with fail
        refine wp_region_lit ?_
        refine wpList_loadRow rfl _ _ rfl (w.heap.size + 1 + 1) rfl (R3.cells none none 0 0) _ (0, 0) HD3.out.out _ Tryz.underlying64 rfl (by kernel_rfl) ?_
        go_wp2_with fail
        refine (HL.out _ _).mono ?_
        rintro e y3 ⟨rfl, b1⟩
        have HE3 := hidr (HD3.out.below b1)
        clear HD3 b1
        go_upto_if 33 with fail
        go_cut [] from 32 to 39 (fun wx => ∃ (ta da : Option Addr) (tc dc : Nat), Hid (DecAt w wx s p6 e6 (R4.cells ta da tc dc)) ∧ Hid (ListsHeld (w.heap.size + 1 + 1) wx ta da R4))
        case first =>
          cases hb : listsB R3 with
          | false =>
            go_wp2_with fail
            go_meet
            case rel =>
              have h3 := N6.out
              unfold listsF at h3
              simp only [hb, if_false, Bool.false_eq_true, Prod.mk.injEq] at h3
              obtain ⟨rfl, rfl, rfl⟩ := h3
              exact ⟨none, none, 0, 0, HE3, fun _ _ _ => ⟨.inl HR3.out.1, .inl HR3.out.2⟩⟩
          | true =>
            have h3 := N6.out
            unfold listsF at h3
            simp only [hb, if_true, listsG] at h3
            have hc1 := countF_le s p5 e5 64
            obtain ⟨⟨pa, ea, na⟩, HA⟩ : ∃ X, Hid (countF s p5 e5 64 = X) := ⟨_, rfl⟩
            rw [HA.out] at h3 hc1
            simp only at h3 hc1
            have hl1 := txK_length s pa ea na
            obtain ⟨⟨pb, eb, LT⟩, HB⟩ : ∃ X, Hid (txK s pa ea na = X) := ⟨_, rfl⟩
            rw [HB.out] at h3 hl1
            simp only at h3 hl1
            have hc2 := countF_le s pb eb 256
            obtain ⟨⟨pc, ec, nc⟩, HCC⟩ : ∃ X, Hid (countF s pb eb 256 = X) := ⟨_, rfl⟩
            rw [HCC.out] at h3 hc2
            simp only at h3 hc2
            have hl2 := dirK_length s pc ec nc
            obtain ⟨⟨pd, ed, LD⟩, HDD⟩ : ∃ X, Hid (dirK s pc ec nc = X) := ⟨_, rfl⟩
            rw [HDD.out] at h3 hl2
            simp only [Prod.mk.injEq] at h3 hl2
            obtain ⟨rfl, rfl, hR4⟩ := h3
            have HR4 := hidr hR4
            clear hR4
            have HT := hidr (takeTxs_any HE3.out.rd HA.out hc1)
            rw [HB.out] at HT
            simp only at HT
            go_wp2_with fail
            refine HT.out.mono ?_
            rintro e t1 ⟨bs, rfl, hbs, hbs1, hrow, hr1, o1⟩
            have HX := hidr (HE3.out.only o1 hr1)
            have hsz := HE3.out.out.lt
            have xx := HX.out.out.cell 15
            have ff := HX.out.out.frozen 15
            obtain ⟨t2, HW2⟩ : ∃ y, Hid (y = t1.setCell ⟨w.heap.size + 1 + 1, 15, none⟩ (.slice (some ⟨bs, 0, none⟩) na na)) := ⟨_, rfl⟩
            have HX2 := hidr (HX.out.set 15 (.slice (some ⟨bs, 0, none⟩) na na))
            rw [← HW2.out] at HX2
            have HROW2 : Hid (RowV t2 bs (na * 4) (cellT LT)) := by show RowV _ _ _ _; rw [HW2.out]; exact hrow.set_other (by omega) _
            have hz2 : bs < t2.heap.size := by rw [HW2.out]; simpa using hbs1
            have HT2 := hidr (takeDirty_any HX2.out.rd HCC.out hc2)
            rw [HDD.out] at HT2
            simp only at HT2
            clear HT hrow hr1 o1
            go_wp2_with fail
            rw [← HW2.out]
            clear HW2 HX xx ff
            refine HT2.out.mono ?_
            rintro e t3 ⟨bd, rfl, hbd, hbd1, hrow3, hr3, o3⟩
            have HX3 := hidr (HX2.out.only o3 hr3)
            have HROW3 := hidr (HROW2.out.only o3 hz2 (by omega))
            have hz3 : bs < t3.heap.size := by have := o3.size; omega
            have xx := HX3.out.out.cell 16
            have ff := HX3.out.out.frozen 16
            clear HT2 HX2 HROW2 hr3 o3
            go_wp2_with fail
            go_meet
            case rel =>
              refine ⟨some ⟨bs, 0, none⟩, some ⟨bd, 0, none⟩, na, nc, ?_, ?_⟩
              · have := HX3.out.set 16 (.slice (some ⟨bd, 0, none⟩) nc nc)
                show DecAt _ _ _ _ _ _
                rw [← HR4.out]
                unfold RecV.cells
                simp only [hl1, hl2]
                exact this
              · show ListsHeld _ _ _ _ _
                intro wx' hk' hz'
                rw [← HR4.out]
                have e1 : wx'.heap[bs]? = _ := hk' bs (by omega) (by simpa using hz3)
                have e2 : wx'.heap[bd]? = _ := hk' bd (by omega) (by simpa using hbd1)
                refine ⟨txs_of_row (by rw [hl1]; exact (HROW3.out.set_other (by omega) _).same e1) (Nat.lt_of_lt_of_le (by simpa using hz3) hz'), dis_of_row (by rw [hl2]; exact (hrow3.set_other (by omega) _).same e2) (Nat.lt_of_lt_of_le (by simpa using hbd1) hz')⟩
        case rest =>
          obtain ⟨ta, da, tc, dc, HD4, HTX⟩ := hcut
          clear HE3 N6 HR3
          have HEN : Hid (Calls Tryz.prog 68 #[.pointer (some ⟨w.heap.size + 1, 0, none⟩)] wc fun y w' => y = .returned (.int .i64 0) ∧ IsReader w' (w.heap.size + 1) s p6 0 ∧ Only (w.heap.size + 1) wc w') := by
            have := end_any HD4.out.rd
            rw [NE.out] at this
            exact this
          go_wp2_with fail
          refine HEN.out.mono ?_
          rintro e y4 ⟨rfl, hr4, o4⟩
          have HD5 := hidr (HD4.out.only o4 hr4)
          have HTX5 : Hid (ListsHeld (w.heap.size + 1 + 1) y4 ta da R4) := HTX.out.to (fun g hg hg' => o4.block g hg' (by omega)) o4.size
          have HCK : Hid (Calls Tryz.prog 69 #[.agg (R4.cells ta da tc dc)] y4 fun e w' => e = .returned (.int .i64 0) ∧ Below y4.heap.size y4 w') := by
            have := rcheck_any R4 ta da tc dc y4 (HOK.out y4 ta da (HTX5.out y4 (fun _ _ _ => rfl) (Nat.le_refl _)).1 (HTX5.out y4 (fun _ _ _ => rfl) (Nat.le_refl _)).2)
            rw [NC.out] at this
            exact this
          clear HD4 HEN hr4 o4 HTX
          obtain ⟨z0, z1, z2, z3, z4, z5, z6, z7, z8, z9, z10, z11, z12, z13, z14, z15, z16⟩ := out_cells (r := R4) (v := .slice ta R4.txs.length tc) (u := .slice da R4.dirty.length dc) HD5.out.out
          go_wp2_with fail
          clear z0 z1 z2 z3 z4 z5 z6 z7 z8 z9 z10 z11 z12 z13 z14 z15 z16
          refine HCK.out.mono ?_
          rintro e y5 ⟨rfl, b5⟩
          have HD6 := hidr (HD5.out.below b5)
          have HTX6 : Hid (ListsHeld (w.heap.size + 1 + 1) y5 ta da R4) := HTX5.out.to (fun g hg hg' => b5.block g hg') b5.size
          clear HD5 HTX5 b5 HCK HN HC HK HL
          obtain ⟨WX, HWX⟩ : ∃ WX, Hid (WX = y5.setRow w.heap.size (R4.cells ta da tc dc)) := ⟨_, rfl⟩
          have hb : BlkR WX w.heap.size (refCells R4 (.slice ta R4.txs.length tc) (.slice da R4.dirty.length dc)) 64 := by rw [HWX.out]; exact setRow_heap y5 _ _ _ _ _ HD6.out.res
          have HBEL : Hid (Below w.heap.size w WX) := by show Below _ _ _; rw [HWX.out]; exact below_setRow HD6.out.bel (Nat.le_refl _) _
          have HLST : Hid (TxsAt WX ta R4.txs ∧ DisAt WX da R4.dirty) := HTX6.out WX (fun g hg _ => by rw [HWX.out]; exact setRow_other _ _ _ _ (by omega)) (by rw [HWX.out]; simp)
          have HOUT : Hid (y5.heap[w.heap.size + 1 + 1]? = some (.cells (R4.cells ta da tc dc) 64 (0, 0))) := HD6.out.out
          have HRES : Hid (y5.heap[w.heap.size]? = some (.cells zeroCellsR 64 (0, 0))) := HD6.out.res
          go_upto_region 17 with fail
          refine wp_region_lit ?_
          refine wpList_loadRow rfl _ _ rfl (w.heap.size + 1 + 1) rfl (R4.cells ta da tc dc) _ (0, 0) HOUT.out _ Tryz.underlying64 rfl (by kernel_rfl) ?_
          refine wpList_storeRow rfl _ _ _ rfl rfl w.heap.size rfl (R4.cells ta da tc dc) zeroCellsR rfl _ HRES.out (by kernel_rfl) rfl (ref_one R4 _ _ _ _ _ _) ?_
          rw [← HWX.out]
          obtain ⟨z0, z1, z2, z3, z4, z5, z6, z7, z8, z9, z10, z11, z12, z13, z14, z15, z16⟩ := out_cells hb
          clear hb HOUT HRES HD6
          go_wp2_with fail
          refine bodyPost_ret (v := .tuple #[.agg (refCells R4 (.slice ta R4.txs.length tc) (.slice da R4.dirty.length dc)), .int .i64 0]) (by simp [results, Tryz.results22, go_sem, z0, z1, z2, z3, z4, z5, z6, z7, z8, z9, z10, z11, z12, z13, z14, z15, z16, refCells]) rfl ?_
          exact ⟨ta, da, tc, dc, rfl, HBEL.out, HLST.out.1, HLST.out.2⟩

end Go.Proofs.YtgkfdakieebnmaaGreat
