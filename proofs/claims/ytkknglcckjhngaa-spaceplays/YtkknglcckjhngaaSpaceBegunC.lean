/-
  The walk of girderlaw07.begun.
-/
import Derived.Test.YtkknglcckjhngaaSpaceFmtC
import Derived.Deep.RegionHeld3
import Derived.Deep.CutRange
namespace Go.Proofs.Ytkknglcckjhngaa
open Go.RowKit Go.Sort
set_option linter.unusedVariables false

/-- Where begun's loop stands. -/
structure BegAt (w wr : World) (g M K : Nat) (p : SheetV) (a : Option Addr) (c : Nat) : Prop where
  bel : Below w.heap.size w wr
  res : RowV wr w.heap.size 5 (five (.int .u32 0) (.int .u64 0) (.int .i64 0) (.string ⟨#[]⟩) (.slice none 0 0))
  ops : FreshOps wr g K
  cur : RowV wr M 5 (five (.int .u32 p.num) (.int .u64 p.lsn) (.int .i64 p.kind) (.string p.head) (.slice a p.slots.length c))
  strs : StrsFrom (M + 1) wr a p.slots
  lt1 : w.heap.size < g
  lt2 : g < M
  lt3 : M < wr.heap.size

theorem BegAt.below {w wr wx : World} {g M K : Nat} {p : SheetV} {a : Option Addr} {c : Nat} (h : BegAt w wr g M K p a c) (k : Below wr.heap.size wr wx) : BegAt w wx g M K p a c :=
  have l1 := h.lt1
  have l2 := h.lt2
  have l3 := h.lt3
  ⟨h.bel.trans (k.mono h.bel.size), h.res.below k (by omega), TwoOps.below h.ops k, h.cur.below k h.lt3, h.strs.below k, l1, l2, Nat.lt_of_lt_of_le l3 k.size⟩

theorem TwoOps.set5 {w : World} {g : Nat} {v0 v1 v2 v3 u0 u1 u2 u3 : Value} (h : TwoOps w g v0 v1 v2 v3 u0 u1 u2 u3) {b : Nat} (hb : b ≠ g) (x0 x1 x2 x3 x4 : Value) : TwoOps (store5 w b x0 x1 x2 x3 x4) g v0 v1 v2 v3 u0 u1 u2 u3 := by
  have e : ∀ i, (store5 w b x0 x1 x2 x3 x4).cell? ⟨g, i, none⟩ = w.cell? ⟨g, i, none⟩ := fun i => by
    unfold store5
    rw [World.cell?_setCell_other _ _ _ _ (by intro q; exact hb (congrArg Addr.block q)), World.cell?_setCell_other _ _ _ _ (by intro q; exact hb (congrArg Addr.block q)), World.cell?_setCell_other _ _ _ _ (by intro q; exact hb (congrArg Addr.block q)), World.cell?_setCell_other _ _ _ _ (by intro q; exact hb (congrArg Addr.block q)), World.cell?_setCell_other _ _ _ _ (by intro q; exact hb (congrArg Addr.block q))]
  exact ⟨by rw [store5_size]; exact h.lt, (e 0).trans h.c0, (e 1).trans h.c1, (e 2).trans h.c2, (e 3).trans h.c3, (e 4).trans h.c4, (e 5).trans h.c5, (e 6).trans h.c6, (e 7).trans h.c7⟩

/-- The page behind it is stored over the one ahead. -/
theorem BegAt.put {w wr : World} {g M K : Nat} {p q : SheetV} {a a' : Option Addr} {c c' : Nat} (h : BegAt w wr g M K p a c) (hs : StrsFrom (M + 1) wr a' q.slots) :
    BegAt w (store5 wr M (.int .u32 q.num) (.int .u64 q.lsn) (.int .i64 q.kind) (.string q.head) (.slice a' q.slots.length c')) g M K q a' c' :=
  have l1 := h.lt1
  have l2 := h.lt2
  ⟨below_set5 h.bel (by omega) _ _ _ _ _, h.res.set5_other (by omega) _ _ _ _ _, TwoOps.set5 h.ops (by omega) _ _ _ _ _, h.cur.set5 _ _ _ _ _, hs.store5 (by omega) _ _ _ _ _, l1, l2, by rw [store5_size]; exact h.lt3⟩

set_option maxHeartbeats 400000 in
set_option maxRecDepth 60000 in
theorem begun_no (k : Int) (w : World) (h : k < 1 ∨ 2048 < k) :
    Calls Try.prog 6 #[.int .i64 k] w fun e w' => e = .returned (.tuple #[page0.val none 0, .bool false]) ∧ Below w.heap.size w w' := by
  have HF : Hid (∀ wx, Calls Try.prog 8 #[.int .i64 k] wx fun e w' => e = .returned (.tuple #[.slice none 0 0, .int .i64 1]) ∧ w' = wx) := fun wx => fresh_no k wx h
  have HBL : Hid (∀ wx, Calls Try.prog 20 #[.int .u32 1] wx fun x w' => x = .returned (.agg #[.int .u32 1, .int .u64 0, .int .i64 0, .string ⟨#[]⟩, .slice none 0 0]) ∧ Below wx.heap.size wx w') := fun wx => blank_any 1 wx
  clear h
  obtain ⟨W, HW⟩ : ∃ W, Hid (W = w.alloc (.cells #[.int .u32 0, .int .u64 0, .int .i64 0, .string ⟨#[]⟩, .slice none 0 0] 29)) := ⟨_, rfl⟩
  have hr : RowV W w.heap.size 5 (five (.int .u32 0) (.int .u64 0) (.int .i64 0) (.string ⟨#[]⟩) (.slice none 0 0)) := by rw [HW.out]; exact RowV.five_new _ _ _ _ _ _ _
  have bW : Below w.heap.size w W := by rw [HW.out]; exact (Below.refl _ _).alloc (Nat.le_refl _) _
  have zW : w.heap.size < W.heap.size := by rw [HW.out]; simp
  go_enter Try.func6, Try.ntmps6
  go_wp2_with fail
  rw [← HW.out]
  clear HW
  refine (HF.out _).mono ?_
  rintro e w1 ⟨rfl, rfl⟩
  go_wp2_with fail
  refine (HBL.out _).mono ?_
  rintro e w2 ⟨rfl, b2⟩
  have hr2 := hr.below b2 zW
  have z2 := Nat.lt_of_lt_of_le zW b2.size
  obtain ⟨V, HV⟩ : ∃ V, Hid (V = w2.alloc (.cells #[.int .u32 1, .int .u64 0, .int .i64 0, .string ⟨#[]⟩, .slice none 0 0] 29)) := ⟨_, rfl⟩
  have bV : Below w.heap.size w V := by rw [HV.out]; exact (bW.trans (b2.mono (by omega))).alloc (by omega) _
  have hr3 : RowV V w.heap.size 5 (five (.int .u32 0) (.int .u64 0) (.int .i64 0) (.string ⟨#[]⟩) (.slice none 0 0)) := by rw [HV.out]; exact hr2.below ((Below.refl _ _).alloc (Nat.le_refl _) _) z2
  have hm : RowV V w2.heap.size 5 (five (.int .u32 1) (.int .u64 0) (.int .i64 0) (.string ⟨#[]⟩) (.slice none 0 0)) := by rw [HV.out]; exact RowV.five_new _ _ _ _ _ _ _
  go_wp2_with fail
  rw [← HV.out]
  clear HV hr hr2 bW
  obtain ⟨x0, x1, x2, x3, x4⟩ := hm.cells5
  obtain ⟨y0, y1, y2, y3, y4⟩ := hr3.cells5
  obtain ⟨g0, g1, g2, g3, g4⟩ := hr3.open5
  go_loop [7] (fun i => i = .int .i64 0) (fun _ => 0)
  case atStart => rfl
  case round =>
    obtain rfl := hrel
    go_wp2
    refine bodyPost_ret (v := .tuple #[.agg #[.int .u32 1, .int .u64 0, .int .i64 0, .string ⟨#[]⟩, .slice none 0 0], .bool false]) (by simp [results, Try.results6, go_sem, y0, y1, y2, y3, y4]) rfl ⟨rfl, below_set5 bV (Nat.le_refl _) _ _ _ _ _⟩

set_option maxHeartbeats 1600000 in
set_option maxRecDepth 60000 in
theorem begun_ok (K : Nat) (w : World) (h1 : 1 ≤ K) (h2 : K ≤ 2048) :
    Calls Try.prog 6 #[.int .i64 K] w fun e w' => ∃ a c, e = .returned (.tuple #[(mapV 1 (freshS K)).val a c, .bool true]) ∧ Below w.heap.size w w' ∧ StrsFrom (w.heap.size + 1) w' a [freshS K] := by
  have HF : Hid (∀ wx, Calls Try.prog 8 #[.int .i64 K] wx fun e w' => ∃ g, e = .returned (.tuple #[.slice (some ⟨g, 0, none⟩) 2 2, .int .i64 0]) ∧ Below wx.heap.size wx w' ∧ wx.heap.size < g ∧ FreshOps w' g K) := fun wx => fresh_ok K wx h1 h2
  have HBL : Hid (∀ wx, Calls Try.prog 20 #[.int .u32 1] wx fun x w' => x = .returned (.agg #[.int .u32 1, .int .u64 0, .int .i64 0, .string ⟨#[]⟩, .slice none 0 0]) ∧ Below wx.heap.size wx w') := fun wx => blank_any 1 wx
  have HA0 : Hid (∀ (a : Option Addr) (c : Nat) wx, Calls Try.prog 12 #[page0.val a c, opF.val, .int .u64 1] wx fun e w' => ∃ a' c', e = .returned (.tuple #[page1.val a' c', .int .i64 0]) ∧ Below wx.heap.size wx w' ∧ StrsFrom wx.heap.size w' a' page1.slots) := fun a c wx => apply_fmt
  have HA1 : Hid (∀ (a : Option Addr) (c : Nat) wx, Calls Try.prog 12 #[page1.val a c, (opIns 0 (freshS K)).val, .int .u64 1] wx fun e w' => ∃ a' c', e = .returned (.tuple #[(mapV 1 (freshS K)).val a' c', .int .i64 0]) ∧ Below wx.heap.size wx w' ∧ StrsFrom wx.heap.size w' a' (mapV 1 (freshS K)).slots) := fun a c wx => apply_slot (freshS K) (freshS_size K)
  obtain ⟨W, HW⟩ : ∃ W, Hid (W = w.alloc (.cells #[.int .u32 0, .int .u64 0, .int .i64 0, .string ⟨#[]⟩, .slice none 0 0] 29)) := ⟨_, rfl⟩
  have hr : RowV W w.heap.size 5 (five (.int .u32 0) (.int .u64 0) (.int .i64 0) (.string ⟨#[]⟩) (.slice none 0 0)) := by rw [HW.out]; exact RowV.five_new _ _ _ _ _ _ _
  have bW : Below w.heap.size w W := by rw [HW.out]; exact (Below.refl _ _).alloc (Nat.le_refl _) _
  have zW : w.heap.size < W.heap.size := by rw [HW.out]; simp
  go_enter Try.func6, Try.ntmps6
  go_wp2_with fail
  rw [← HW.out]
  clear HW
  refine (HF.out _).mono ?_
  rintro e w1 ⟨g, rfl, b1, hg, hops⟩
  go_wp2_with fail
  refine (HBL.out _).mono ?_
  rintro e w2 ⟨rfl, b2⟩
  obtain ⟨V, HV⟩ : ∃ V, Hid (V = w2.alloc (.cells #[.int .u32 1, .int .u64 0, .int .i64 0, .string ⟨#[]⟩, .slice none 0 0] 29)) := ⟨_, rfl⟩
  have HB0 : Hid (BegAt w V g w2.heap.size K page0 none 0) := by
    have s1 := b1.size
    have s2 := b2.size
    have hl := hops.lt
    have b3 : Below w2.heap.size w2 V := by rw [HV.out]; exact (Below.refl _ _).alloc (Nat.le_refl _) _
    have hr2 := ((hr.below b1 zW).below b2 (by omega)).below b3 (by omega)
    exact ⟨((bW.trans (b1.mono (by omega))).trans (b2.mono (by omega))).trans (b3.mono (by omega)), hr2, TwoOps.below (TwoOps.below hops b2) b3, by rw [HV.out]; exact RowV.five_new _ _ _ _ _ _ _, .inl rfl, by omega, by omega, by rw [HV.out]; simp⟩
  go_wp2_with fail
  rw [← HV.out]
  clear HV hr bW hops b1 b2 hg
  generalize w2.heap.size = M at *
  go_loopw [7] (fun i wr => ∃ (a : Option Addr) (c : Nat), (i = .int .i64 0 ∧ Hid (BegAt w wr g M K page0 a c)) ∨ (i = .int .i64 1 ∧ Hid (BegAt w wr g M K page1 a c)) ∨ (i = .int .i64 2 ∧ Hid (BegAt w wr g M K (mapV 1 (freshS K)) a c))) (fun i _ => 2 - (intOf i).toNat)
  case atStart => exact ⟨none, 0, .inl ⟨rfl, HB0⟩⟩
  case round =>
    clear HB0 HF HBL
    obtain ⟨a, c, ⟨rfl, HB⟩ | ⟨rfl, HB⟩ | ⟨rfl, HB⟩⟩ := hrel
    · obtain ⟨z0, z1, z2, z3, z4⟩ := HB.out.cur.cells5
      obtain ⟨q0, q1, q2, q3⟩ : _ ∧ _ ∧ _ ∧ _ := ⟨HB.out.ops.c0, HB.out.ops.c1, HB.out.ops.c2, HB.out.ops.c3⟩
      have l1 := HB.out.lt1
      have l2 := HB.out.lt2
      have l3 := HB.out.lt3
      have HAP := HA0.out a c
      simp only [SheetV.val, OpV.val] at HAP
      obtain ⟨p, HP⟩ : ∃ p : SheetV, Hid (page0 = p) := ⟨_, rfl⟩
      obtain ⟨r, HR⟩ : ∃ r : SheetV, Hid (page1 = r) := ⟨_, rfl⟩
      obtain ⟨o, HO⟩ : ∃ o : OpV, Hid (opF = o) := ⟨_, rfl⟩
      rw [HP.out] at z0 z1 z2 z3 z4 HB
      rw [HP.out, HR.out, HO.out] at HAP
      have q0' : wr.cell? ⟨g, 0, none⟩ = some (.int .i64 o.kind) := by rw [← HO.out]; exact q0
      have q1' : wr.cell? ⟨g, 1, none⟩ = some (.int .i64 o.at') := by rw [← HO.out]; exact q1
      have q2' : wr.cell? ⟨g, 2, none⟩ = some (.string o.S) := by rw [← HO.out]; exact q2
      have q3' : wr.cell? ⟨g, 3, none⟩ = some (.string o.old) := by rw [← HO.out]; exact q3
      clear q0 q1 q2 q3
      have HAP' : Hid (∀ wx, Calls Try.prog 12 #[.agg #[.int .u32 p.num, .int .u64 p.lsn, .int .i64 p.kind, .string p.head, .slice a p.slots.length c], .agg #[.int .i64 o.kind, .int .i64 o.at', .string o.S, .string o.old], .int .u64 1] wx fun e w' => ∃ ar cr, e = .returned (.tuple #[.agg #[.int .u32 r.num, .int .u64 r.lsn, .int .i64 r.kind, .string r.head, .slice ar r.slots.length cr], .int .i64 0]) ∧ Below wx.heap.size wx w' ∧ StrsFrom wx.heap.size w' ar r.slots) := HAP
      clear HAP
      have hkeep : ∀ wy : World, Below wr.heap.size wr wy →
          (wy.cell? ⟨M, 0, none⟩ = some (.int .u32 p.num) ∧ wy.cell? ⟨M, 1, none⟩ = some (.int .u64 p.lsn) ∧ wy.cell? ⟨M, 2, none⟩ = some (.int .i64 p.kind) ∧ wy.cell? ⟨M, 3, none⟩ = some (.string p.head) ∧ wy.cell? ⟨M, 4, none⟩ = some (.slice a p.slots.length c) ∧
            wy.cell? ⟨g, 0, none⟩ = some (.int .i64 o.kind) ∧ wy.cell? ⟨g, 1, none⟩ = some (.int .i64 o.at') ∧ wy.cell? ⟨g, 2, none⟩ = some (.string o.S) ∧ wy.cell? ⟨g, 3, none⟩ = some (.string o.old)) := by
        intro wy b
        have e := fun i => b.cell (p := ⟨M, i, none⟩) l3
        have f := fun i => b.cell (p := ⟨g, i, none⟩) (by show g < wr.heap.size; omega)
        exact ⟨(e 0).trans z0, (e 1).trans z1, (e 2).trans z2, (e 3).trans z3, (e 4).trans z4, (f 0).trans q0', (f 1).trans q1', (f 2).trans q2', (f 3).trans q3'⟩
      have ne1 : M ≠ wr.heap.size := by omega
      have ne2 : g ≠ wr.heap.size := by omega
      go_upto_region 6 with fail
      go_cut [8, 9] from 22 to 30 (fun np ev wx => ∃ (N : Nat) (ar : Option Addr) (cr : Nat), np = .pointer (some ⟨N, 0, none⟩) ∧ ev = .int .i64 0 ∧ Below wr.heap.size wr wx ∧ RowV wx N 5 (five (.int .u32 r.num) (.int .u64 r.lsn) (.int .i64 r.kind) (.string r.head) (.slice ar r.slots.length cr)) ∧ wr.heap.size ≤ N ∧ N < wx.heap.size ∧ Hid (StrsFrom wr.heap.size wx ar r.slots))
      case first =>
        go_region_held3 (fun wy => wy.cell? ⟨M, 0, none⟩ = some (.int .u32 p.num) ∧ wy.cell? ⟨M, 1, none⟩ = some (.int .u64 p.lsn) ∧ wy.cell? ⟨M, 2, none⟩ = some (.int .i64 p.kind) ∧ wy.cell? ⟨M, 3, none⟩ = some (.string p.head) ∧ wy.cell? ⟨M, 4, none⟩ = some (.slice a p.slots.length c) ∧
            wy.cell? ⟨g, 0, none⟩ = some (.int .i64 o.kind) ∧ wy.cell? ⟨g, 1, none⟩ = some (.int .i64 o.at') ∧ wy.cell? ⟨g, 2, none⟩ = some (.string o.S) ∧ wy.cell? ⟨g, 3, none⟩ = some (.string o.old))
          (first | go_keep | exact hkeep _ c6 | exact hkeep _ (c6.alloc (by have := b6.size; simpa using this) _) | exact hkeep _ (below_set5 c6 (Nat.le_refl _) _ _ _ _ _))
          (first
            | (go_at_call 12; refine (HAP'.out (wr.drew.alloc (.cells #[.int .u32 0, .int .u64 0, .int .i64 0, .string ⟨#[]⟩, .slice none 0 0] 29))).mono ?_; rintro e w6 ⟨ar, cr, rfl, b6, hr⟩; have c6 : Below wr.heap.size wr w6 := (((Below.refl _ _).drew).alloc (Nat.le_refl _) _).trans (b6.mono (by simp)); have hn6 : RowV w6 wr.heap.size 5 (five (.int .u32 0) (.int .u64 0) (.int .i64 0) (.string ⟨#[]⟩) (.slice none 0 0)) := (RowV.five_new wr.drew (.int .u32 0) (.int .u64 0) (.int .i64 0) (.string ⟨#[]⟩) (.slice none 0 0) 29).below b6 (by simp); obtain ⟨n0, n1, n2, n3, n4⟩ := hn6.cells5; obtain ⟨m0, m1, m2, m3, m4⟩ := hn6.open5)
            | (go_at_call 12; refine (HAP'.out wr.drew).mono ?_; rintro e w6 ⟨ar, cr, rfl, b6, hr⟩; have c6 : Below wr.heap.size wr w6 := ((Below.refl _ _).drew).trans b6))
        · go_wp2_with fail
          go_meet
          case rel => exact ⟨w6.heap.size, ar, cr, rfl, rfl, c6.alloc (by have := b6.size; simpa using this) _, RowV.five_new w6 _ _ _ _ _ _, by have := b6.size; simpa using this, by simp, hr.below ((Below.refl _ _).alloc (Nat.le_refl _) _)⟩
        · go_wp2_with fail
          go_meet
          case rel => exact ⟨wr.heap.size, ar, cr, rfl, rfl, below_set5 c6 (Nat.le_refl _) _ _ _ _ _, hn6.set5 _ _ _ _ _, Nat.le_refl _, by have := b6.size; simp at this; simp; omega, (hr.store5 (b := wr.heap.size) (by simp) _ _ _ _ _).mono (by simp)⟩
      case rest =>
        obtain ⟨N, ar, cr, rfl, rfl, b6, hn6, hN1, hN2, HS⟩ := hcut
        have h6 := HB.out.below b6
        have HB6 : Hid (BegAt w (store5 wc M (.int .u32 r.num) (.int .u64 r.lsn) (.int .i64 r.kind) (.string r.head) (.slice ar r.slots.length cr)) g M K r ar cr) := h6.put (HS.out.mono (by omega))
        clear HB b6 HAP' hkeep z0 z1 z2 z3 z4 q0' q1' q2' q3'
        obtain ⟨n0, n1, n2, n3, n4⟩ := hn6.cells5
        obtain ⟨z0, z1, z2, z3, z4⟩ := h6.cur.cells5
        obtain ⟨m0, m1, m2, m3, m4⟩ := h6.cur.open5
        have neN : N ≠ M := by omega
        clear h6
        go_wp2
        go_roundw
        case rel => exact ⟨ar, cr, .inr (.inl ⟨rfl, by rw [HR.out]; exact HB6⟩)⟩
        case measure => simp [intOf]
    · obtain ⟨z0, z1, z2, z3, z4⟩ := HB.out.cur.cells5
      obtain ⟨q0, q1, q2, q3⟩ : _ ∧ _ ∧ _ ∧ _ := ⟨HB.out.ops.c4, HB.out.ops.c5, HB.out.ops.c6, HB.out.ops.c7⟩
      have l1 := HB.out.lt1
      have l2 := HB.out.lt2
      have l3 := HB.out.lt3
      have HAP := HA1.out a c
      simp only [SheetV.val, OpV.val] at HAP
      obtain ⟨p, HP⟩ : ∃ p : SheetV, Hid (page1 = p) := ⟨_, rfl⟩
      obtain ⟨r, HR⟩ : ∃ r : SheetV, Hid (mapV 1 (freshS K) = r) := ⟨_, rfl⟩
      obtain ⟨o, HO⟩ : ∃ o : OpV, Hid (opIns 0 (freshS K) = o) := ⟨_, rfl⟩
      rw [HP.out] at z0 z1 z2 z3 z4 HB
      rw [HP.out, HR.out, HO.out] at HAP
      have q0' : wr.cell? ⟨g, 4, none⟩ = some (.int .i64 o.kind) := by rw [← HO.out]; exact q0
      have q1' : wr.cell? ⟨g, 5, none⟩ = some (.int .i64 o.at') := by rw [← HO.out]; exact q1
      have q2' : wr.cell? ⟨g, 6, none⟩ = some (.string o.S) := by rw [← HO.out]; exact q2
      have q3' : wr.cell? ⟨g, 7, none⟩ = some (.string o.old) := by rw [← HO.out]; exact q3
      clear q0 q1 q2 q3
      have HAP' : Hid (∀ wx, Calls Try.prog 12 #[.agg #[.int .u32 p.num, .int .u64 p.lsn, .int .i64 p.kind, .string p.head, .slice a p.slots.length c], .agg #[.int .i64 o.kind, .int .i64 o.at', .string o.S, .string o.old], .int .u64 1] wx fun e w' => ∃ ar cr, e = .returned (.tuple #[.agg #[.int .u32 r.num, .int .u64 r.lsn, .int .i64 r.kind, .string r.head, .slice ar r.slots.length cr], .int .i64 0]) ∧ Below wx.heap.size wx w' ∧ StrsFrom wx.heap.size w' ar r.slots) := HAP
      clear HAP
      have hkeep : ∀ wy : World, Below wr.heap.size wr wy →
          (wy.cell? ⟨M, 0, none⟩ = some (.int .u32 p.num) ∧ wy.cell? ⟨M, 1, none⟩ = some (.int .u64 p.lsn) ∧ wy.cell? ⟨M, 2, none⟩ = some (.int .i64 p.kind) ∧ wy.cell? ⟨M, 3, none⟩ = some (.string p.head) ∧ wy.cell? ⟨M, 4, none⟩ = some (.slice a p.slots.length c) ∧
            wy.cell? ⟨g, 4, none⟩ = some (.int .i64 o.kind) ∧ wy.cell? ⟨g, 5, none⟩ = some (.int .i64 o.at') ∧ wy.cell? ⟨g, 6, none⟩ = some (.string o.S) ∧ wy.cell? ⟨g, 7, none⟩ = some (.string o.old)) := by
        intro wy b
        have e := fun i => b.cell (p := ⟨M, i, none⟩) l3
        have f := fun i => b.cell (p := ⟨g, i, none⟩) (by show g < wr.heap.size; omega)
        exact ⟨(e 0).trans z0, (e 1).trans z1, (e 2).trans z2, (e 3).trans z3, (e 4).trans z4, (f 4).trans q0', (f 5).trans q1', (f 6).trans q2', (f 7).trans q3'⟩
      have ne1 : M ≠ wr.heap.size := by omega
      have ne2 : g ≠ wr.heap.size := by omega
      go_upto_region 6 with fail
      go_cut [8, 9] from 22 to 30 (fun np ev wx => ∃ (N : Nat) (ar : Option Addr) (cr : Nat), np = .pointer (some ⟨N, 0, none⟩) ∧ ev = .int .i64 0 ∧ Below wr.heap.size wr wx ∧ RowV wx N 5 (five (.int .u32 r.num) (.int .u64 r.lsn) (.int .i64 r.kind) (.string r.head) (.slice ar r.slots.length cr)) ∧ wr.heap.size ≤ N ∧ N < wx.heap.size ∧ Hid (StrsFrom wr.heap.size wx ar r.slots))
      case first =>
        go_region_held3 (fun wy => wy.cell? ⟨M, 0, none⟩ = some (.int .u32 p.num) ∧ wy.cell? ⟨M, 1, none⟩ = some (.int .u64 p.lsn) ∧ wy.cell? ⟨M, 2, none⟩ = some (.int .i64 p.kind) ∧ wy.cell? ⟨M, 3, none⟩ = some (.string p.head) ∧ wy.cell? ⟨M, 4, none⟩ = some (.slice a p.slots.length c) ∧
            wy.cell? ⟨g, 4, none⟩ = some (.int .i64 o.kind) ∧ wy.cell? ⟨g, 5, none⟩ = some (.int .i64 o.at') ∧ wy.cell? ⟨g, 6, none⟩ = some (.string o.S) ∧ wy.cell? ⟨g, 7, none⟩ = some (.string o.old))
          (first | go_keep | exact hkeep _ c6 | exact hkeep _ (c6.alloc (by have := b6.size; simpa using this) _) | exact hkeep _ (below_set5 c6 (Nat.le_refl _) _ _ _ _ _))
          (first
            | (go_at_call 12; refine (HAP'.out (wr.drew.alloc (.cells #[.int .u32 0, .int .u64 0, .int .i64 0, .string ⟨#[]⟩, .slice none 0 0] 29))).mono ?_; rintro e w6 ⟨ar, cr, rfl, b6, hr⟩; have c6 : Below wr.heap.size wr w6 := (((Below.refl _ _).drew).alloc (Nat.le_refl _) _).trans (b6.mono (by simp)); have hn6 : RowV w6 wr.heap.size 5 (five (.int .u32 0) (.int .u64 0) (.int .i64 0) (.string ⟨#[]⟩) (.slice none 0 0)) := (RowV.five_new wr.drew (.int .u32 0) (.int .u64 0) (.int .i64 0) (.string ⟨#[]⟩) (.slice none 0 0) 29).below b6 (by simp); obtain ⟨n0, n1, n2, n3, n4⟩ := hn6.cells5; obtain ⟨m0, m1, m2, m3, m4⟩ := hn6.open5)
            | (go_at_call 12; refine (HAP'.out wr.drew).mono ?_; rintro e w6 ⟨ar, cr, rfl, b6, hr⟩; have c6 : Below wr.heap.size wr w6 := ((Below.refl _ _).drew).trans b6))
        · go_wp2_with fail
          go_meet
          case rel => exact ⟨w6.heap.size, ar, cr, rfl, rfl, c6.alloc (by have := b6.size; simpa using this) _, RowV.five_new w6 _ _ _ _ _ _, by have := b6.size; simpa using this, by simp, hr.below ((Below.refl _ _).alloc (Nat.le_refl _) _)⟩
        · go_wp2_with fail
          go_meet
          case rel => exact ⟨wr.heap.size, ar, cr, rfl, rfl, below_set5 c6 (Nat.le_refl _) _ _ _ _ _, hn6.set5 _ _ _ _ _, Nat.le_refl _, by have := b6.size; simp at this; simp; omega, (hr.store5 (b := wr.heap.size) (by simp) _ _ _ _ _).mono (by simp)⟩
      case rest =>
        obtain ⟨N, ar, cr, rfl, rfl, b6, hn6, hN1, hN2, HS⟩ := hcut
        have h6 := HB.out.below b6
        have HB6 : Hid (BegAt w (store5 wc M (.int .u32 r.num) (.int .u64 r.lsn) (.int .i64 r.kind) (.string r.head) (.slice ar r.slots.length cr)) g M K r ar cr) := h6.put (HS.out.mono (by omega))
        clear HB b6 HAP' hkeep z0 z1 z2 z3 z4 q0' q1' q2' q3'
        obtain ⟨n0, n1, n2, n3, n4⟩ := hn6.cells5
        obtain ⟨z0, z1, z2, z3, z4⟩ := h6.cur.cells5
        obtain ⟨m0, m1, m2, m3, m4⟩ := h6.cur.open5
        have neN : N ≠ M := by omega
        clear h6
        go_wp2
        go_roundw
        case rel => exact ⟨ar, cr, .inr (.inr ⟨rfl, by rw [HR.out]; exact HB6⟩)⟩
        case measure => simp [intOf]
    · obtain ⟨z0, z1, z2, z3, z4⟩ := HB.out.cur.cells5
      obtain ⟨y0, y1, y2, y3, y4⟩ := HB.out.res.cells5
      obtain ⟨g0, g1, g2, g3, g4⟩ := HB.out.res.open5
      have l1 := HB.out.lt1
      have l2 := HB.out.lt2
      have neM : M ≠ w.heap.size := by omega
      have HST : Hid (StrsFrom (w.heap.size + 1) wr a (mapV 1 (freshS K)).slots) := HB.out.strs.mono (by omega)
      have B := HB.out.bel
      clear HB HA0 HA1
      obtain ⟨r, HR⟩ : ∃ r : SheetV, Hid (mapV 1 (freshS K) = r) := ⟨_, rfl⟩
      rw [HR.out] at z0 z1 z2 z3 z4
      go_wp2
      refine bodyPost_ret (v := .tuple #[.agg #[.int .u32 r.num, .int .u64 r.lsn, .int .i64 r.kind, .string r.head, .slice a r.slots.length c], .bool true]) (by simp [results, Try.results6, go_sem, y0, y1, y2, y3, y4]) rfl ⟨a, c, by rw [HR.out]; rfl, below_set5 B (Nat.le_refl _) _ _ _ _ _, HST.out.store5 (by omega) _ _ _ _ _⟩

end Go.Proofs.Ytkknglcckjhngaa
