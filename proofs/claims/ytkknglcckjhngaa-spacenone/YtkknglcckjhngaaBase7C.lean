/-
  The walk of girderlaw07.begun.
  The walk of girderlaw07.awake.
  An argument of type api.Sheet, opened: a page as plain data, its slots in memory.
-/
import Derived.Test.YtkknglcckjhngaaBase6C
import Derived.Deep.RegionHeld3
import Derived.Deep.CutRange
import Derived.Test.YtkknglcckjhngaaBase1C
import Derived.ProofKit
import Derived.OpenShut
import Derived.ShutString
import Derived.ChangeOld
import Derived.SizedLaws
import Derived.SliceStrings
namespace Go.Proofs.Ytkknglcckjhngaa
open Go.RowKit Go.Sort
set_option linter.unusedVariables false

/-- Where begun's loop stands. -/
structure BegAt (w wr : World) (g M K : Nat) (p : SheetV) (a : Option Addr) (c : Nat) : Prop where
  bel : Below w.heap.size w wr
  res : RowV wr w.heap.size 5 (five (.int .u32 0) (.int .u64 0) (.int .i64 0) (.string ⟨#[]⟩) (.slice none 0 0))
  ops : FreshOps wr g K
  cur : RowV wr M 5 (five (.int .u32 p.num) (.int .u64 p.lsn) (.int .i64 p.kind) (.string p.head) (.slice a p.slots.length c))
  strs : StrsFrom (M + 1) wr a p.slots
  lt1 : w.heap.size < g
  lt2 : g < M
  lt3 : M < wr.heap.size

theorem BegAt.below {w wr wx : World} {g M K : Nat} {p : SheetV} {a : Option Addr} {c : Nat} (h : BegAt w wr g M K p a c) (k : Below wr.heap.size wr wx) : BegAt w wx g M K p a c :=
  have l1 := h.lt1
  have l2 := h.lt2
  have l3 := h.lt3
  ⟨h.bel.trans (k.mono h.bel.size), h.res.below k (by omega), TwoOps.below h.ops k, h.cur.below k h.lt3, h.strs.below k, l1, l2, Nat.lt_of_lt_of_le l3 k.size⟩

theorem TwoOps.set5 {w : World} {g : Nat} {v0 v1 v2 v3 u0 u1 u2 u3 : Value} (h : TwoOps w g v0 v1 v2 v3 u0 u1 u2 u3) {b : Nat} (hb : b ≠ g) (x0 x1 x2 x3 x4 : Value) : TwoOps (store5 w b x0 x1 x2 x3 x4) g v0 v1 v2 v3 u0 u1 u2 u3 := by
  have e : ∀ i, (store5 w b x0 x1 x2 x3 x4).cell? ⟨g, i, none⟩ = w.cell? ⟨g, i, none⟩ := fun i => by
    unfold store5
    rw [World.cell?_setCell_other _ _ _ _ (by intro q; exact hb (congrArg Addr.block q)), World.cell?_setCell_other _ _ _ _ (by intro q; exact hb (congrArg Addr.block q)), World.cell?_setCell_other _ _ _ _ (by intro q; exact hb (congrArg Addr.block q)), World.cell?_setCell_other _ _ _ _ (by intro q; exact hb (congrArg Addr.block q)), World.cell?_setCell_other _ _ _ _ (by intro q; exact hb (congrArg Addr.block q))]
  exact ⟨by rw [store5_size]; exact h.lt, (e 0).trans h.c0, (e 1).trans h.c1, (e 2).trans h.c2, (e 3).trans h.c3, (e 4).trans h.c4, (e 5).trans h.c5, (e 6).trans h.c6, (e 7).trans h.c7⟩

/-- The page behind it is stored over the one ahead. -/
theorem BegAt.put {w wr : World} {g M K : Nat} {p q : SheetV} {a a' : Option Addr} {c c' : Nat} (h : BegAt w wr g M K p a c) (hs : StrsFrom (M + 1) wr a' q.slots) :
    BegAt w (store5 wr M (.int .u32 q.num) (.int .u64 q.lsn) (.int .i64 q.kind) (.string q.head) (.slice a' q.slots.length c')) g M K q a' c' :=
  have l1 := h.lt1
  have l2 := h.lt2
  ⟨below_set5 h.bel (by omega) _ _ _ _ _, h.res.set5_other (by omega) _ _ _ _ _, TwoOps.set5 h.ops (by omega) _ _ _ _ _, h.cur.set5 _ _ _ _ _, hs.store5 (by omega) _ _ _ _ _, l1, l2, by rw [store5_size]; exact h.lt3⟩

set_option maxHeartbeats 400000 in
theorem begun_no (k : Int) (w : World) (h : k < 1 ∨ 2048 < k) :
    Calls Try.prog 6 #[.int .i64 k] w fun e w' => e = .returned (.tuple #[page0.val none 0, .bool false]) ∧ Below w.heap.size w w' := by
  have HF : Hid (∀ wx, Calls Try.prog 8 #[.int .i64 k] wx fun e w' => e = .returned (.tuple #[.slice none 0 0, .int .i64 1]) ∧ w' = wx) := fun wx => fresh_no k wx h
  have HBL : Hid (∀ wx, Calls Try.prog 20 #[.int .u32 1] wx fun x w' => x = .returned (.agg #[.int .u32 1, .int .u64 0, .int .i64 0, .string ⟨#[]⟩, .slice none 0 0]) ∧ Below wx.heap.size wx w') := fun wx => blank_any 1 wx
  clear h
  obtain ⟨W, HW⟩ : ∃ W, Hid (W = w.alloc (.cells #[.int .u32 0, .int .u64 0, .int .i64 0, .string ⟨#[]⟩, .slice none 0 0] 29)) := ⟨_, rfl⟩
  have hr : RowV W w.heap.size 5 (five (.int .u32 0) (.int .u64 0) (.int .i64 0) (.string ⟨#[]⟩) (.slice none 0 0)) := by rw [HW.out]; exact RowV.five_new _ _ _ _ _ _ _
  have bW : Below w.heap.size w W := by rw [HW.out]; exact (Below.refl _ _).alloc (Nat.le_refl _) _
  have zW : w.heap.size < W.heap.size := by rw [HW.out]; simp
  go_enter Try.func6, Try.ntmps6
  go_wp2_with fail
  rw [← HW.out]
  clear HW
  refine (HF.out _).mono ?_
  rintro e w1 ⟨rfl, rfl⟩
  go_wp2_with fail
  refine (HBL.out _).mono ?_
  rintro e w2 ⟨rfl, b2⟩
  have hr2 := hr.below b2 zW
  have z2 := Nat.lt_of_lt_of_le zW b2.size
  obtain ⟨V, HV⟩ : ∃ V, Hid (V = w2.alloc (.cells #[.int .u32 1, .int .u64 0, .int .i64 0, .string ⟨#[]⟩, .slice none 0 0] 29)) := ⟨_, rfl⟩
  have bV : Below w.heap.size w V := by rw [HV.out]; exact (bW.trans (b2.mono (by omega))).alloc (by omega) _
  have hr3 : RowV V w.heap.size 5 (five (.int .u32 0) (.int .u64 0) (.int .i64 0) (.string ⟨#[]⟩) (.slice none 0 0)) := by rw [HV.out]; exact hr2.below ((Below.refl _ _).alloc (Nat.le_refl _) _) z2
  have hm : RowV V w2.heap.size 5 (five (.int .u32 1) (.int .u64 0) (.int .i64 0) (.string ⟨#[]⟩) (.slice none 0 0)) := by rw [HV.out]; exact RowV.five_new _ _ _ _ _ _ _
  go_wp2_with fail
  rw [← HV.out]
  clear HV hr hr2 bW
  obtain ⟨x0, x1, x2, x3, x4⟩ := hm.cells5
  obtain ⟨y0, y1, y2, y3, y4⟩ := hr3.cells5
  obtain ⟨g0, g1, g2, g3, g4⟩ := hr3.open5
  go_loop [7] (fun i => i = .int .i64 0) (fun _ => 0)
  case atStart => rfl
  case round =>
    obtain rfl := hrel
    go_wp2
    refine bodyPost_ret (v := .tuple #[.agg #[.int .u32 1, .int .u64 0, .int .i64 0, .string ⟨#[]⟩, .slice none 0 0], .bool false]) (by simp [results, Try.results6, go_sem, y0, y1, y2, y3, y4]) rfl ⟨rfl, below_set5 bV (Nat.le_refl _) _ _ _ _ _⟩

set_option maxHeartbeats 1600000 in
theorem begun_ok (K : Nat) (w : World) (h1 : 1 ≤ K) (h2 : K ≤ 2048) :
    Calls Try.prog 6 #[.int .i64 K] w fun e w' => ∃ a c, e = .returned (.tuple #[(mapV 1 (freshS K)).val a c, .bool true]) ∧ Below w.heap.size w w' ∧ StrsFrom (w.heap.size + 1) w' a [freshS K] := by
  have HF : Hid (∀ wx, Calls Try.prog 8 #[.int .i64 K] wx fun e w' => ∃ g, e = .returned (.tuple #[.slice (some ⟨g, 0, none⟩) 2 2, .int .i64 0]) ∧ Below wx.heap.size wx w' ∧ wx.heap.size < g ∧ FreshOps w' g K) := fun wx => fresh_ok K wx h1 h2
  have HBL : Hid (∀ wx, Calls Try.prog 20 #[.int .u32 1] wx fun x w' => x = .returned (.agg #[.int .u32 1, .int .u64 0, .int .i64 0, .string ⟨#[]⟩, .slice none 0 0]) ∧ Below wx.heap.size wx w') := fun wx => blank_any 1 wx
  have HA0 : Hid (∀ (a : Option Addr) (c : Nat) wx, Calls Try.prog 12 #[page0.val a c, opF.val, .int .u64 1] wx fun e w' => ∃ a' c', e = .returned (.tuple #[page1.val a' c', .int .i64 0]) ∧ Below wx.heap.size wx w' ∧ StrsFrom wx.heap.size w' a' page1.slots) := fun a c wx => apply_fmt
  have HA1 : Hid (∀ (a : Option Addr) (c : Nat) wx, Calls Try.prog 12 #[page1.val a c, (opIns 0 (freshS K)).val, .int .u64 1] wx fun e w' => ∃ a' c', e = .returned (.tuple #[(mapV 1 (freshS K)).val a' c', .int .i64 0]) ∧ Below wx.heap.size wx w' ∧ StrsFrom wx.heap.size w' a' (mapV 1 (freshS K)).slots) := fun a c wx => apply_slot (freshS K) (freshS_size K)
  obtain ⟨W, HW⟩ : ∃ W, Hid (W = w.alloc (.cells #[.int .u32 0, .int .u64 0, .int .i64 0, .string ⟨#[]⟩, .slice none 0 0] 29)) := ⟨_, rfl⟩
  have hr : RowV W w.heap.size 5 (five (.int .u32 0) (.int .u64 0) (.int .i64 0) (.string ⟨#[]⟩) (.slice none 0 0)) := by rw [HW.out]; exact RowV.five_new _ _ _ _ _ _ _
  have bW : Below w.heap.size w W := by rw [HW.out]; exact (Below.refl _ _).alloc (Nat.le_refl _) _
  have zW : w.heap.size < W.heap.size := by rw [HW.out]; simp
  go_enter Try.func6, Try.ntmps6
  go_wp2_with fail
  rw [← HW.out]
  clear HW
  refine (HF.out _).mono ?_
  rintro e w1 ⟨g, rfl, b1, hg, hops⟩
  go_wp2_with fail
  refine (HBL.out _).mono ?_
  rintro e w2 ⟨rfl, b2⟩
  obtain ⟨V, HV⟩ : ∃ V, Hid (V = w2.alloc (.cells #[.int .u32 1, .int .u64 0, .int .i64 0, .string ⟨#[]⟩, .slice none 0 0] 29)) := ⟨_, rfl⟩
  have HB0 : Hid (BegAt w V g w2.heap.size K page0 none 0) := by
    have s1 := b1.size
    have s2 := b2.size
    have hl := hops.lt
    have b3 : Below w2.heap.size w2 V := by rw [HV.out]; exact (Below.refl _ _).alloc (Nat.le_refl _) _
    have hr2 := ((hr.below b1 zW).below b2 (by omega)).below b3 (by omega)
    exact ⟨((bW.trans (b1.mono (by omega))).trans (b2.mono (by omega))).trans (b3.mono (by omega)), hr2, TwoOps.below (TwoOps.below hops b2) b3, by rw [HV.out]; exact RowV.five_new _ _ _ _ _ _ _, .inl rfl, by omega, by omega, by rw [HV.out]; simp⟩
  go_wp2_with fail
  rw [← HV.out]
  clear HV hr bW hops b1 b2 hg
  generalize w2.heap.size = M at *
  go_loopw [7] (fun i wr => ∃ (a : Option Addr) (c : Nat), (i = .int .i64 0 ∧ Hid (BegAt w wr g M K page0 a c)) ∨ (i = .int .i64 1 ∧ Hid (BegAt w wr g M K page1 a c)) ∨ (i = .int .i64 2 ∧ Hid (BegAt w wr g M K (mapV 1 (freshS K)) a c))) (fun i _ => 2 - (intOf i).toNat)
  case atStart => exact ⟨none, 0, .inl ⟨rfl, HB0⟩⟩
  case round =>
    clear HB0 HF HBL
    obtain ⟨a, c, ⟨rfl, HB⟩ | ⟨rfl, HB⟩ | ⟨rfl, HB⟩⟩ := hrel
    · obtain ⟨z0, z1, z2, z3, z4⟩ := HB.out.cur.cells5
      obtain ⟨q0, q1, q2, q3⟩ : _ ∧ _ ∧ _ ∧ _ := ⟨HB.out.ops.c0, HB.out.ops.c1, HB.out.ops.c2, HB.out.ops.c3⟩
      have l1 := HB.out.lt1
      have l2 := HB.out.lt2
      have l3 := HB.out.lt3
      have HAP := HA0.out a c
      simp only [SheetV.val, OpV.val] at HAP
      obtain ⟨p, HP⟩ : ∃ p : SheetV, Hid (page0 = p) := ⟨_, rfl⟩
      obtain ⟨r, HR⟩ : ∃ r : SheetV, Hid (page1 = r) := ⟨_, rfl⟩
      obtain ⟨o, HO⟩ : ∃ o : OpV, Hid (opF = o) := ⟨_, rfl⟩
      rw [HP.out] at z0 z1 z2 z3 z4 HB
      rw [HP.out, HR.out, HO.out] at HAP
      have q0' : wr.cell? ⟨g, 0, none⟩ = some (.int .i64 o.kind) := by rw [← HO.out]; exact q0
      have q1' : wr.cell? ⟨g, 1, none⟩ = some (.int .i64 o.at') := by rw [← HO.out]; exact q1
      have q2' : wr.cell? ⟨g, 2, none⟩ = some (.string o.S) := by rw [← HO.out]; exact q2
      have q3' : wr.cell? ⟨g, 3, none⟩ = some (.string o.old) := by rw [← HO.out]; exact q3
      clear q0 q1 q2 q3
      have HAP' : Hid (∀ wx, Calls Try.prog 12 #[.agg #[.int .u32 p.num, .int .u64 p.lsn, .int .i64 p.kind, .string p.head, .slice a p.slots.length c], .agg #[.int .i64 o.kind, .int .i64 o.at', .string o.S, .string o.old], .int .u64 1] wx fun e w' => ∃ ar cr, e = .returned (.tuple #[.agg #[.int .u32 r.num, .int .u64 r.lsn, .int .i64 r.kind, .string r.head, .slice ar r.slots.length cr], .int .i64 0]) ∧ Below wx.heap.size wx w' ∧ StrsFrom wx.heap.size w' ar r.slots) := HAP
      clear HAP
      have hkeep : ∀ wy : World, Below wr.heap.size wr wy →
          (wy.cell? ⟨M, 0, none⟩ = some (.int .u32 p.num) ∧ wy.cell? ⟨M, 1, none⟩ = some (.int .u64 p.lsn) ∧ wy.cell? ⟨M, 2, none⟩ = some (.int .i64 p.kind) ∧ wy.cell? ⟨M, 3, none⟩ = some (.string p.head) ∧ wy.cell? ⟨M, 4, none⟩ = some (.slice a p.slots.length c) ∧
            wy.cell? ⟨g, 0, none⟩ = some (.int .i64 o.kind) ∧ wy.cell? ⟨g, 1, none⟩ = some (.int .i64 o.at') ∧ wy.cell? ⟨g, 2, none⟩ = some (.string o.S) ∧ wy.cell? ⟨g, 3, none⟩ = some (.string o.old)) := by
        intro wy b
        have e := fun i => b.cell (p := ⟨M, i, none⟩) l3
        have f := fun i => b.cell (p := ⟨g, i, none⟩) (by show g < wr.heap.size; omega)
        exact ⟨(e 0).trans z0, (e 1).trans z1, (e 2).trans z2, (e 3).trans z3, (e 4).trans z4, (f 0).trans q0', (f 1).trans q1', (f 2).trans q2', (f 3).trans q3'⟩
      have ne1 : M ≠ wr.heap.size := by omega
      have ne2 : g ≠ wr.heap.size := by omega
      go_upto_region 6 with fail
      go_cut [8, 9] from 22 to 30 (fun np ev wx => ∃ (N : Nat) (ar : Option Addr) (cr : Nat), np = .pointer (some ⟨N, 0, none⟩) ∧ ev = .int .i64 0 ∧ Below wr.heap.size wr wx ∧ RowV wx N 5 (five (.int .u32 r.num) (.int .u64 r.lsn) (.int .i64 r.kind) (.string r.head) (.slice ar r.slots.length cr)) ∧ wr.heap.size ≤ N ∧ N < wx.heap.size ∧ Hid (StrsFrom wr.heap.size wx ar r.slots))
      case first =>
        go_region_held3 (fun wy => wy.cell? ⟨M, 0, none⟩ = some (.int .u32 p.num) ∧ wy.cell? ⟨M, 1, none⟩ = some (.int .u64 p.lsn) ∧ wy.cell? ⟨M, 2, none⟩ = some (.int .i64 p.kind) ∧ wy.cell? ⟨M, 3, none⟩ = some (.string p.head) ∧ wy.cell? ⟨M, 4, none⟩ = some (.slice a p.slots.length c) ∧
            wy.cell? ⟨g, 0, none⟩ = some (.int .i64 o.kind) ∧ wy.cell? ⟨g, 1, none⟩ = some (.int .i64 o.at') ∧ wy.cell? ⟨g, 2, none⟩ = some (.string o.S) ∧ wy.cell? ⟨g, 3, none⟩ = some (.string o.old))
          (first | go_keep | exact hkeep _ c6 | exact hkeep _ (c6.alloc (by have := b6.size; simpa using this) _) | exact hkeep _ (below_set5 c6 (Nat.le_refl _) _ _ _ _ _))
          (first
            | (go_at_call 12; refine (HAP'.out (wr.drew.alloc (.cells #[.int .u32 0, .int .u64 0, .int .i64 0, .string ⟨#[]⟩, .slice none 0 0] 29))).mono ?_; rintro e w6 ⟨ar, cr, rfl, b6, hr⟩; have c6 : Below wr.heap.size wr w6 := (((Below.refl _ _).drew).alloc (Nat.le_refl _) _).trans (b6.mono (by simp)); have hn6 : RowV w6 wr.heap.size 5 (five (.int .u32 0) (.int .u64 0) (.int .i64 0) (.string ⟨#[]⟩) (.slice none 0 0)) := (RowV.five_new wr.drew (.int .u32 0) (.int .u64 0) (.int .i64 0) (.string ⟨#[]⟩) (.slice none 0 0) 29).below b6 (by simp); obtain ⟨n0, n1, n2, n3, n4⟩ := hn6.cells5; obtain ⟨m0, m1, m2, m3, m4⟩ := hn6.open5)
            | (go_at_call 12; refine (HAP'.out wr.drew).mono ?_; rintro e w6 ⟨ar, cr, rfl, b6, hr⟩; have c6 : Below wr.heap.size wr w6 := ((Below.refl _ _).drew).trans b6))
        · go_wp2_with fail
          go_meet
          case rel => exact ⟨w6.heap.size, ar, cr, rfl, rfl, c6.alloc (by have := b6.size; simpa using this) _, RowV.five_new w6 _ _ _ _ _ _, by have := b6.size; simpa using this, by simp, hr.below ((Below.refl _ _).alloc (Nat.le_refl _) _)⟩
        · go_wp2_with fail
          go_meet
          case rel => exact ⟨wr.heap.size, ar, cr, rfl, rfl, below_set5 c6 (Nat.le_refl _) _ _ _ _ _, hn6.set5 _ _ _ _ _, Nat.le_refl _, by have := b6.size; simp at this; simp; omega, (hr.store5 (b := wr.heap.size) (by simp) _ _ _ _ _).mono (by simp)⟩
      case rest =>
        obtain ⟨N, ar, cr, rfl, rfl, b6, hn6, hN1, hN2, HS⟩ := hcut
        have h6 := HB.out.below b6
        have HB6 : Hid (BegAt w (store5 wc M (.int .u32 r.num) (.int .u64 r.lsn) (.int .i64 r.kind) (.string r.head) (.slice ar r.slots.length cr)) g M K r ar cr) := h6.put (HS.out.mono (by omega))
        clear HB b6 HAP' hkeep z0 z1 z2 z3 z4 q0' q1' q2' q3'
        obtain ⟨n0, n1, n2, n3, n4⟩ := hn6.cells5
        obtain ⟨z0, z1, z2, z3, z4⟩ := h6.cur.cells5
        obtain ⟨m0, m1, m2, m3, m4⟩ := h6.cur.open5
        have neN : N ≠ M := by omega
        clear h6
        go_wp2
        go_roundw
        case rel => exact ⟨ar, cr, .inr (.inl ⟨rfl, by rw [HR.out]; exact HB6⟩)⟩
        case measure => simp [intOf]
    · obtain ⟨z0, z1, z2, z3, z4⟩ := HB.out.cur.cells5
      obtain ⟨q0, q1, q2, q3⟩ : _ ∧ _ ∧ _ ∧ _ := ⟨HB.out.ops.c4, HB.out.ops.c5, HB.out.ops.c6, HB.out.ops.c7⟩
      have l1 := HB.out.lt1
      have l2 := HB.out.lt2
      have l3 := HB.out.lt3
      have HAP := HA1.out a c
      simp only [SheetV.val, OpV.val] at HAP
      obtain ⟨p, HP⟩ : ∃ p : SheetV, Hid (page1 = p) := ⟨_, rfl⟩
      obtain ⟨r, HR⟩ : ∃ r : SheetV, Hid (mapV 1 (freshS K) = r) := ⟨_, rfl⟩
      obtain ⟨o, HO⟩ : ∃ o : OpV, Hid (opIns 0 (freshS K) = o) := ⟨_, rfl⟩
      rw [HP.out] at z0 z1 z2 z3 z4 HB
      rw [HP.out, HR.out, HO.out] at HAP
      have q0' : wr.cell? ⟨g, 4, none⟩ = some (.int .i64 o.kind) := by rw [← HO.out]; exact q0
      have q1' : wr.cell? ⟨g, 5, none⟩ = some (.int .i64 o.at') := by rw [← HO.out]; exact q1
      have q2' : wr.cell? ⟨g, 6, none⟩ = some (.string o.S) := by rw [← HO.out]; exact q2
      have q3' : wr.cell? ⟨g, 7, none⟩ = some (.string o.old) := by rw [← HO.out]; exact q3
      clear q0 q1 q2 q3
      have HAP' : Hid (∀ wx, Calls Try.prog 12 #[.agg #[.int .u32 p.num, .int .u64 p.lsn, .int .i64 p.kind, .string p.head, .slice a p.slots.length c], .agg #[.int .i64 o.kind, .int .i64 o.at', .string o.S, .string o.old], .int .u64 1] wx fun e w' => ∃ ar cr, e = .returned (.tuple #[.agg #[.int .u32 r.num, .int .u64 r.lsn, .int .i64 r.kind, .string r.head, .slice ar r.slots.length cr], .int .i64 0]) ∧ Below wx.heap.size wx w' ∧ StrsFrom wx.heap.size w' ar r.slots) := HAP
      clear HAP
      have hkeep : ∀ wy : World, Below wr.heap.size wr wy →
          (wy.cell? ⟨M, 0, none⟩ = some (.int .u32 p.num) ∧ wy.cell? ⟨M, 1, none⟩ = some (.int .u64 p.lsn) ∧ wy.cell? ⟨M, 2, none⟩ = some (.int .i64 p.kind) ∧ wy.cell? ⟨M, 3, none⟩ = some (.string p.head) ∧ wy.cell? ⟨M, 4, none⟩ = some (.slice a p.slots.length c) ∧
            wy.cell? ⟨g, 4, none⟩ = some (.int .i64 o.kind) ∧ wy.cell? ⟨g, 5, none⟩ = some (.int .i64 o.at') ∧ wy.cell? ⟨g, 6, none⟩ = some (.string o.S) ∧ wy.cell? ⟨g, 7, none⟩ = some (.string o.old)) := by
        intro wy b
        have e := fun i => b.cell (p := ⟨M, i, none⟩) l3
        have f := fun i => b.cell (p := ⟨g, i, none⟩) (by show g < wr.heap.size; omega)
        exact ⟨(e 0).trans z0, (e 1).trans z1, (e 2).trans z2, (e 3).trans z3, (e 4).trans z4, (f 4).trans q0', (f 5).trans q1', (f 6).trans q2', (f 7).trans q3'⟩
      have ne1 : M ≠ wr.heap.size := by omega
      have ne2 : g ≠ wr.heap.size := by omega
      go_upto_region 6 with fail
      go_cut [8, 9] from 22 to 30 (fun np ev wx => ∃ (N : Nat) (ar : Option Addr) (cr : Nat), np = .pointer (some ⟨N, 0, none⟩) ∧ ev = .int .i64 0 ∧ Below wr.heap.size wr wx ∧ RowV wx N 5 (five (.int .u32 r.num) (.int .u64 r.lsn) (.int .i64 r.kind) (.string r.head) (.slice ar r.slots.length cr)) ∧ wr.heap.size ≤ N ∧ N < wx.heap.size ∧ Hid (StrsFrom wr.heap.size wx ar r.slots))
      case first =>
        go_region_held3 (fun wy => wy.cell? ⟨M, 0, none⟩ = some (.int .u32 p.num) ∧ wy.cell? ⟨M, 1, none⟩ = some (.int .u64 p.lsn) ∧ wy.cell? ⟨M, 2, none⟩ = some (.int .i64 p.kind) ∧ wy.cell? ⟨M, 3, none⟩ = some (.string p.head) ∧ wy.cell? ⟨M, 4, none⟩ = some (.slice a p.slots.length c) ∧
            wy.cell? ⟨g, 4, none⟩ = some (.int .i64 o.kind) ∧ wy.cell? ⟨g, 5, none⟩ = some (.int .i64 o.at') ∧ wy.cell? ⟨g, 6, none⟩ = some (.string o.S) ∧ wy.cell? ⟨g, 7, none⟩ = some (.string o.old))
          (first | go_keep | exact hkeep _ c6 | exact hkeep _ (c6.alloc (by have := b6.size; simpa using this) _) | exact hkeep _ (below_set5 c6 (Nat.le_refl _) _ _ _ _ _))
          (first
            | (go_at_call 12; refine (HAP'.out (wr.drew.alloc (.cells #[.int .u32 0, .int .u64 0, .int .i64 0, .string ⟨#[]⟩, .slice none 0 0] 29))).mono ?_; rintro e w6 ⟨ar, cr, rfl, b6, hr⟩; have c6 : Below wr.heap.size wr w6 := (((Below.refl _ _).drew).alloc (Nat.le_refl _) _).trans (b6.mono (by simp)); have hn6 : RowV w6 wr.heap.size 5 (five (.int .u32 0) (.int .u64 0) (.int .i64 0) (.string ⟨#[]⟩) (.slice none 0 0)) := (RowV.five_new wr.drew (.int .u32 0) (.int .u64 0) (.int .i64 0) (.string ⟨#[]⟩) (.slice none 0 0) 29).below b6 (by simp); obtain ⟨n0, n1, n2, n3, n4⟩ := hn6.cells5; obtain ⟨m0, m1, m2, m3, m4⟩ := hn6.open5)
            | (go_at_call 12; refine (HAP'.out wr.drew).mono ?_; rintro e w6 ⟨ar, cr, rfl, b6, hr⟩; have c6 : Below wr.heap.size wr w6 := ((Below.refl _ _).drew).trans b6))
        · go_wp2_with fail
          go_meet
          case rel => exact ⟨w6.heap.size, ar, cr, rfl, rfl, c6.alloc (by have := b6.size; simpa using this) _, RowV.five_new w6 _ _ _ _ _ _, by have := b6.size; simpa using this, by simp, hr.below ((Below.refl _ _).alloc (Nat.le_refl _) _)⟩
        · go_wp2_with fail
          go_meet
          case rel => exact ⟨wr.heap.size, ar, cr, rfl, rfl, below_set5 c6 (Nat.le_refl _) _ _ _ _ _, hn6.set5 _ _ _ _ _, Nat.le_refl _, by have := b6.size; simp at this; simp; omega, (hr.store5 (b := wr.heap.size) (by simp) _ _ _ _ _).mono (by simp)⟩
      case rest =>
        obtain ⟨N, ar, cr, rfl, rfl, b6, hn6, hN1, hN2, HS⟩ := hcut
        have h6 := HB.out.below b6
        have HB6 : Hid (BegAt w (store5 wc M (.int .u32 r.num) (.int .u64 r.lsn) (.int .i64 r.kind) (.string r.head) (.slice ar r.slots.length cr)) g M K r ar cr) := h6.put (HS.out.mono (by omega))
        clear HB b6 HAP' hkeep z0 z1 z2 z3 z4 q0' q1' q2' q3'
        obtain ⟨n0, n1, n2, n3, n4⟩ := hn6.cells5
        obtain ⟨z0, z1, z2, z3, z4⟩ := h6.cur.cells5
        obtain ⟨m0, m1, m2, m3, m4⟩ := h6.cur.open5
        have neN : N ≠ M := by omega
        clear h6
        go_wp2
        go_roundw
        case rel => exact ⟨ar, cr, .inr (.inr ⟨rfl, by rw [HR.out]; exact HB6⟩)⟩
        case measure => simp [intOf]
    · obtain ⟨z0, z1, z2, z3, z4⟩ := HB.out.cur.cells5
      obtain ⟨y0, y1, y2, y3, y4⟩ := HB.out.res.cells5
      obtain ⟨g0, g1, g2, g3, g4⟩ := HB.out.res.open5
      have l1 := HB.out.lt1
      have l2 := HB.out.lt2
      have neM : M ≠ w.heap.size := by omega
      have HST : Hid (StrsFrom (w.heap.size + 1) wr a (mapV 1 (freshS K)).slots) := HB.out.strs.mono (by omega)
      have B := HB.out.bel
      clear HB HA0 HA1
      obtain ⟨r, HR⟩ : ∃ r : SheetV, Hid (mapV 1 (freshS K) = r) := ⟨_, rfl⟩
      rw [HR.out] at z0 z1 z2 z3 z4
      go_wp2
      refine bodyPost_ret (v := .tuple #[.agg #[.int .u32 r.num, .int .u64 r.lsn, .int .i64 r.kind, .string r.head, .slice a r.slots.length c], .bool true]) (by simp [results, Try.results6, go_sem, y0, y1, y2, y3, y4]) rfl ⟨a, c, by rw [HR.out]; rfl, below_set5 B (Nat.le_refl _) _ _ _ _ _, HST.out.store5 (by omega) _ _ _ _ _⟩

end Go.Proofs.Ytkknglcckjhngaa

namespace Go.Proofs.Ytkknglcckjhngaa
open Go.RowKit Go.Sort
set_option linter.unusedVariables false

theorem tkL_first (s : ByteArray) (m : Nat) (h : ∀ n, tkB s n = decide (1 ≤ n ∧ n ≤ m)) (K : Nat) : (tkL s K).length = if K ≤ m then K else m := by
  induction K with
  | zero => simp [tkL]
  | succ K ih =>
    rw [tkL_snoc, List.length_append, ih, len_if, h]
    by_cases c : K + 1 ≤ m
    · rw [if_pos (by omega), if_pos c]
      simp [c]
    · rw [if_neg c]
      by_cases d : K ≤ m
      · have : K = m := by omega
        rw [if_pos d]
        simp [this]
      · rw [if_neg d]
        simp [c]

/-- The map in which just 3 pages are taken. -/
theorem three_tk (n : Nat) : tkB (flipS (freshS 2) 3) n = decide (1 ≤ n ∧ n ≤ 3) := by
  rw [flip_tk (freshS_size 2) (by omega) (by omega), fresh_tk, fresh_tk]
  by_cases c : n = 3
  · subst c; simp
  · rw [if_neg c]
    rw [Bool.eq_iff_iff]
    simp only [decide_eq_true_eq]
    omega

theorem three_cnt : cntN (flipS (freshS 2) 3) 256 = 3 := by
  rw [← tkL_len _ 256 (Nat.le_refl _), tkL_first _ 3 three_tk]
  rw [if_neg (by omega)]

theorem two_take : takeN (mapV 1 (freshS 2)) 64 = 3 := by
  unfold takeN
  rw [mapV_slot, show roomN 64 = 61 + 1 + 1 + 1 from by decide]
  rw [freeF_tk _ _ _ (by rw [fresh_tk]; decide), freeF_tk _ _ _ (by rw [fresh_tk]; decide), freeF_no _ _ _ (by rw [fresh_tk]; decide)]

set_option maxHeartbeats 1600000 in
theorem awake_any (w : World) : Calls Try.prog 7 #[] w fun e w' => e = .returned (.bool true) ∧ Below w.heap.size w w' := by
  have HB : Hid (∀ wx, Calls Try.prog 6 #[.int .i64 2] wx fun e w' => ∃ a c, e = .returned (.tuple #[(mapV 1 (freshS 2)).val a c, .bool true]) ∧ Below wx.heap.size wx w' ∧ StrsFrom (wx.heap.size + 1) w' a [freshS 2]) := fun wx => begun_ok 2 wx (by omega) (by omega)
  have f1 := mapV_fits 1 (freshS 2) (by omega) (freshS_size 2)
  have hs3 := flip_size (n := 3) (freshS_size 2) (by omega)
  have f2 := mapV_fits 2 (flipS (freshS 2) 3) (by omega) hs3
  have HT : Hid (∀ (a : Option Addr) (c : Nat) wx, StrsAt wx a [freshS 2] → Calls Try.prog 11 #[(mapV 1 (freshS 2)).val a c, .int .i64 64] wx fun e w' => e = .returned (.tuple #[.int .u32 3, turnV (freshS 2) 3, .int .i64 0]) ∧ Below wx.heap.size wx w') := fun a c wx h => by
    have := take_map (c := c) (Fits.lies f1 h) 64 (mapV_is 1 _ (freshS_size 2)) (by omega) (by omega)
    unfold takeE at this
    rw [two_take, mapV_is 1 _ (freshS_size 2)] at this
    exact this
  have HA : Hid (∀ (a : Option Addr) (c : Nat) wx, StrsAt wx a [freshS 2] → Calls Try.prog 12 #[(mapV 1 (freshS 2)).val a c, turnV (freshS 2) 3, .int .u64 2] wx fun e w' => ∃ a' c', e = .returned (.tuple #[(mapV 2 (flipS (freshS 2) 3)).val a' c', .int .i64 0]) ∧ Below wx.heap.size wx w' ∧ StrsFrom wx.heap.size w' a' [flipS (freshS 2) 3]) := fun a c wx h => apply_turn 2 3 (by omega) (freshS_size 2) (by omega) h
  have HK : Hid (∀ (a : Option Addr) (c : Nat) wx, StrsAt wx a [flipS (freshS 2) 3] → Calls Try.prog 15 #[(mapV 2 (flipS (freshS 2) 3)).val a c, .int .u32 3] wx fun e w' => e = .returned (.bool true) ∧ Below wx.heap.size wx w') := fun a c wx h => by
    have := taken_any (c := c) (Fits.lies f2 h) 3 (by omega)
    rw [show tkP (mapV 2 (flipS (freshS 2) 3)) 3 = true from by unfold tkP; rw [mapV_is 2 _ hs3, mapV_slot, three_tk]; rfl] at this
    exact this
  have HC : Hid (∀ (a : Option Addr) (c : Nat) wx, StrsAt wx a [flipS (freshS 2) 3] → Calls Try.prog 17 #[(mapV 2 (flipS (freshS 2) 3)).val a c] wx fun e w' => e = .returned (.int .i64 3) ∧ Below wx.heap.size wx w') := fun a c wx h => by
    have := count_any (c := c) (Fits.lies f2 h)
    rw [show cntP (mapV 2 (flipS (freshS 2) 3)) = 3 from by unfold cntP; rw [mapV_is 2 _ hs3, mapV_slot, three_cnt]; rfl] at this
    exact this
  clear f1 f2 hs3
  unfold turnV at HT HA
  simp only [SheetV.val, mapV, List.length_cons, List.length_nil, Nat.zero_add] at HB HT HA HK HC
  generalize one (bytN (freshS 2) (atN 3) ^^^ pwN 3) = S1 at *
  generalize one (bytN (freshS 2) (atN 3)) = S2 at *
  generalize flipS (freshS 2) 3 = s2 at *
  generalize freshS 2 = s1 at *
  generalize ((atN 3 : Nat) : Int) = A at *
  go_enter Try.func7, Try.ntmps7
  go_wp2_with fail
  refine (HB.out _).mono ?_
  rintro e w1 ⟨a, c, rfl, b1, hs1⟩
  obtain ⟨W1, HW1⟩ : ∃ W1, Hid (W1 = w1.alloc (.cells #[.int .u32 1, .int .u64 1, .int .i64 1, .string ⟨#[]⟩, .slice a 1 c] 29)) := ⟨_, rfl⟩
  have m1 : RowV W1 w1.heap.size 5 (five (.int .u32 1) (.int .u64 1) (.int .i64 1) (.string ⟨#[]⟩) (.slice a 1 c)) := by rw [HW1.out]; exact RowV.five_new _ _ _ _ _ _ _
  have k1 : Below w1.heap.size w1 W1 := by rw [HW1.out]; exact (Below.refl _ _).alloc (Nat.le_refl _) _
  have z1 : w1.heap.size < W1.heap.size := by rw [HW1.out]; simp
  have t1 := (hs1.below k1).at
  have B1 := below_chain b1 k1
  go_wp2_with fail
  rw [← HW1.out]
  obtain ⟨x0, x1, x2, x3, x4⟩ := m1.cells5
  clear HW1 hs1 k1 b1
  go_wp2_with fail
  refine (HT.out _ _ _ t1).mono ?_
  rintro e w2 ⟨rfl, b2⟩
  obtain ⟨W2, HW2⟩ : ∃ W2, Hid (W2 = w2.alloc (.cells #[.int .i64 6, .int .i64 A, .string S1, .string S2] 41)) := ⟨_, rfl⟩
  have k2 : Below w2.heap.size w2 W2 := by rw [HW2.out]; exact (Below.refl _ _).alloc (Nat.le_refl _) _
  have m2 : RowV W2 w2.heap.size 4 (four (.int .i64 6) (.int .i64 A) (.string S1) (.string S2)) := by rw [HW2.out]; exact RowV.four_new _ _ _ _ _ _
  have c2 := below_chain b2 k2
  have m1' := m1.below c2 z1
  have t2 := t1.below c2
  have B2 := below_chain B1 c2
  have z2 : w2.heap.size < W2.heap.size := by rw [HW2.out]; simp
  have z1' := Nat.lt_of_lt_of_le z1 c2.size
  obtain ⟨u0, u1, u2, u3, u4⟩ := m1'.cells5
  rw [HW2.out] at u0 u1 u2 u3 u4
  go_wp2_with fail
  rw [← HW2.out]
  clear HW2 x0 x1 x2 x3 x4 u0 u1 u2 u3 u4 m1 t1 B1 k2 b2 c2
  obtain ⟨x0, x1, x2, x3, x4⟩ := m1'.cells5
  obtain ⟨y0, y1, y2, y3⟩ := m2.cells4
  go_wp2_with fail
  refine (HA.out _ _ _ t2).mono ?_
  rintro e w3 ⟨a', c', rfl, b3, hs3⟩
  obtain ⟨W3, HW3⟩ : ∃ W3, Hid (W3 = w3.alloc (.cells #[.int .u32 1, .int .u64 2, .int .i64 1, .string ⟨#[]⟩, .slice a' 1 c'] 29)) := ⟨_, rfl⟩
  have k3 : Below w3.heap.size w3 W3 := by rw [HW3.out]; exact (Below.refl _ _).alloc (Nat.le_refl _) _
  have m3 : RowV W3 w3.heap.size 5 (five (.int .u32 1) (.int .u64 2) (.int .i64 1) (.string ⟨#[]⟩) (.slice a' 1 c')) := by rw [HW3.out]; exact RowV.five_new _ _ _ _ _ _ _
  have t3 := (hs3.below k3).at
  have B3 := below_chain B2 (below_chain b3 k3)
  have z3 : w3.heap.size < W3.heap.size := by rw [HW3.out]; simp
  go_wp2_with fail
  rw [← HW3.out]
  clear HW3 x0 x1 x2 x3 x4 y0 y1 y2 y3 m1' m2 t2 B2 k3 b3 hs3
  obtain ⟨x0, x1, x2, x3, x4⟩ := m3.cells5
  go_wp2_with fail
  refine (HK.out _ _ _ t3).mono ?_
  rintro e w4 ⟨rfl, b4⟩
  have m4 := m3.below b4 z3
  have t4 := t3.below b4
  have B4 := below_chain B3 b4
  clear x0 x1 x2 x3 x4 m3 t3 B3 b4
  obtain ⟨x0, x1, x2, x3, x4⟩ := m4.cells5
  go_wp2_with fail
  refine (HC.out _ _ _ t4).mono ?_
  rintro e w5 ⟨rfl, b5⟩
  go_wp2
  go_ret
  exact ⟨rfl, below_chain B4 b5⟩

end Go.Proofs.Ytkknglcckjhngaa

namespace Go.Proofs.Ytkknglcckjhngaa
open Go.ChangeShapes Go.WideShapes Go.ChangeAt Go.RowKit
set_option linter.unusedVariables false

theorem cellsSheet : Try.prog.cellsOf 29 = 5 := by kernel_rfl
theorem cellsPage : Try.prog.cellsOf 24 = 1 := by kernel_rfl
theorem cellsLSN : Try.prog.cellsOf 26 = 1 := by kernel_rfl
theorem cellsInt : Try.prog.cellsOf 3 = 1 := by kernel_rfl
theorem cellsString : Try.prog.cellsOf 9 = 1 := by kernel_rfl
theorem cellsStrings : Try.prog.cellsOf 27 = 1 := by kernel_rfl
theorem bytesString : Try.prog.bytesOf 9 = 16 := by kernel_rfl

theorem trod_struct5 {H : Type} {enc : TypeId × Value → H} {P : Program} {w : World} {base : Nat} {spare : Nat → Bool} {held : Bool} {t : TypeId} {f0 f1 f2 f3 f4 : Field} {fuel : Nat} {cs : List Value} {x : DataW H × List MemPlace} (ht : P.underlying t = some (.struct #[f0, f1, f2, f3, f4])) (h : DataW.trod enc P w base spare held fuel t cs = some x) :
    ∃ y0 y1 y2 y3 y4 n, x = (.agg [y0.1, y1.1, y2.1, y3.1, y4.1], y0.2 ++ (y1.2 ++ (y2.2 ++ (y3.2 ++ y4.2)))) ∧ cs.length = P.cellsOf t ∧ DataW.trod enc P w base spare held n f0.type ((cs.drop f0.offset).take (P.cellsOf f0.type)) = some y0 ∧
      DataW.trod enc P w base spare held n f1.type ((cs.drop f1.offset).take (P.cellsOf f1.type)) = some y1 ∧ DataW.trod enc P w base spare held n f2.type ((cs.drop f2.offset).take (P.cellsOf f2.type)) = some y2 ∧
      DataW.trod enc P w base spare held n f3.type ((cs.drop f3.offset).take (P.cellsOf f3.type)) = some y3 ∧ DataW.trod enc P w base spare held n f4.type ((cs.drop f4.offset).take (P.cellsOf f4.type)) = some y4 := by
  obtain ⟨xs, n, _, rfl, hl, hlen, hf⟩ := DataW.trod_struct ht h
  match xs, hlen with
  | [y0, y1, y2, y3, y4], _ => exact ⟨y0, y1, y2, y3, y4, n, by simp, hl, by simpa using hf 0 f0 rfl, by simpa using hf 1 f1 rfl, by simpa using hf 2 f2 rfl, by simpa using hf 3 f3 rfl, by simpa using hf 4 f4 rfl⟩

theorem weights_strs {H : Type} (ss : List ByteArray) {s : ByteArray} (hs : s ∈ ss) : s.size ∈ DataW.weightsAll (H := H) Try.prog 9 (strs ss) := by
  induction ss with
  | nil => cases hs
  | cons x ss ih =>
    simp only [strs, List.map_cons, DataW.weightsAll, List.mem_append]
    rcases List.mem_cons.1 hs with rfl | hs
    · left; simp [DataW.weights]
    · right; exact ih hs

theorem bounds_u32 {n : Int} (h : Lit.wf (.int .u32 n) = true) : 0 ≤ n ∧ n ≤ 4294967295 := by
  have e1 : IntKind.u32.min = 0 := by decide
  have e2 : IntKind.u32.max = 4294967295 := by decide
  simpa [Lit.wf, e1, e2] using h
theorem bounds_u64' {n : Int} (h : Lit.wf (.int .u64 n) = true) : 0 ≤ n ∧ n ≤ 18446744073709551615 := by
  have e1 : IntKind.u64.min = 0 := by decide
  have e2 : IntKind.u64.max = 18446744073709551615 := by decide
  simpa [Lit.wf, e1, e2] using h
theorem bounds_i64' {n : Int} (h : Lit.wf (.int .i64 n) = true) : -9223372036854775808 ≤ n ∧ n ≤ 9223372036854775807 := by
  have e1 : IntKind.i64.min = -9223372036854775808 := by decide
  have e2 : IntKind.i64.max = 9223372036854775807 := by decide
  simpa [Lit.wf, e1, e2] using h

set_option maxHeartbeats 800000 in
set_option maxRecDepth 100000 in
theorem open_sheet {H : Type} {enc : TypeId × Value → H} {w : World} {base b0 : Nat} {r : Reach} {spare : Nat → Bool} {held : Bool} {v : Value} {d : DataW H} {pl : List MemPlace}
    (hv : Value.okWide Try.prog w r b0 29 v) (h : DataW.Trod enc Try.prog w base spare held 29 v d pl) (hw : ∀ n ∈ d.weights Try.prog 29, n ≤ reachBytes) :
    ∃ (p : SheetV) (a : Option Addr) (c : Nat), v = p.val a c ∧ p.Ok w a := by
  obtain ⟨fuel, hf⟩ := h
  obtain ⟨cs, rfl, hsz⟩ := okWide_struct Try.underlying29 hv
  rw [cellsSheet] at hsz
  obtain ⟨l⟩ := cs
  obtain ⟨v0, v1, v2, v3, v4, rfl⟩ : ∃ v0 v1 v2 v3 v4, l = [v0, v1, v2, v3, v4] := by
    match l, hsz with
    | [v0, v1, v2, v3, v4], _ => exact ⟨_, _, _, _, _, rfl⟩
  simp only [Value.cells] at hf
  obtain ⟨y0, y1, y2, y3, y4, n, hx, _, g0, g1, g2, g3, g4⟩ := trod_struct5 Try.underlying29 hf
  simp only [cellsPage, cellsLSN, cellsInt, cellsString, cellsStrings] at g0 g1 g2 g3 g4
  obtain ⟨x0, e0, rfl, w0⟩ := DataW.trod_int Try.underlying24 g0
  obtain ⟨x1, e1, rfl, w1⟩ := DataW.trod_int Try.underlying26 g1
  obtain ⟨x2, e2, rfl, w2⟩ := DataW.trod_int Try.underlying3 g2
  obtain ⟨x3, e3, rfl, w3⟩ := DataW.trod_string Try.underlying9 g3
  simp at e0 e1 e2 e3
  subst e0 e1 e2 e3
  obtain ⟨k0, k1⟩ := bounds_u32 w0
  obtain ⟨k2, k3⟩ := bounds_u64' w1
  obtain ⟨n0, rfl⟩ := Int.eq_ofNat_of_zero_le k0
  obtain ⟨n1, rfl⟩ := Int.eq_ofNat_of_zero_le k2
  have k4 := bounds_i64' w2
  simp only [Prod.mk.injEq] at hx
  obtain ⟨rfl, _⟩ := hx
  have hw3 : x3.data.toList.length ≤ reachBytes := hw _ (by simp [DataW.weights, Try.underlying29, DataW.weightsEach])
  have hw3' : x3.size ≤ 140737488351232 := by simpa [reachBytes] using hw3
  rcases Go.ChangeShapes.open_strings Try.underlying27 Try.underlying9 cellsString g4 with ⟨hcs, rfl⟩ | ⟨a', len', cap', ss, hcs, _, hl, hm, hss, rfl, hc, hz⟩
  · simp at hcs
    subst hcs
    exact ⟨⟨n0, n1, x2, x3, []⟩, none, 0, rfl, ⟨by show n0 < _; omega, by show n1 < _; omega, k4, hw3', by simp, by simp, .inl rfl⟩⟩
  · simp at hcs
    subst hcs
    have hlm : len' ≤ ss.length := by rw [hss]; split <;> omega
    have hmem : ∀ s ∈ ss.take len', s.size ≤ 140737488351232 := fun s hs => by
      have := hw s.size (by
        simp only [DataW.weights, Try.underlying29, DataW.weightsEach, Try.underlying27, List.map_cons, List.map_nil, List.mem_append, List.mem_cons]
        simp [weights_strs _ hs])
      simpa [reachBytes] using this
    have hlen : len' * 16 ≤ 140737488351232 := by
      have := hw ((strs (H := H) (ss.take len')).length + (strs (H := H) (ss.drop len')).length |> (· * 16)) (by
        simp [DataW.weights, Try.underlying29, DataW.weightsEach, Try.underlying27, bytesString])
      have e : (strs (H := H) (ss.take len')).length = len' := by simp [strs]; omega
      rw [e] at this
      have : (len' + (strs (H := H) (ss.drop len')).length) * 16 ≤ 140737488351232 := by simpa [reachBytes] using this
      omega
    have htl : (ss.take len').length = len' := by simp; omega
    refine ⟨⟨n0, n1, x2, x3, ss.take len'⟩, some a', cap', by simp [SheetV.val, htl], ⟨by show n0 < _; omega, by show n1 < _; omega, k4, hw3', by show (ss.take len').length ≤ _; omega, hmem, ?_⟩⟩
    by_cases h0 : len' = 0
    · left; simp [h0]
    · right
      have hc0 := hc 0 (by omega)
      obtain ⟨b, o, sp⟩ := a'
      cases sp with
      | some z => simp [Addr.add, World.cell?] at hc0; split at hc0 <;> simp_all
      | none =>
        refine ⟨b, o, rfl, World.block_lt_of_cell? w _ hc0, fun i hi => ?_⟩
        have hi' : i < len' := by simpa [htl] using hi
        have := hc i (by omega)
        rw [Addr.add_lit] at this
        rw [this, List.getD_eq_getElem?_getD, List.getElem?_eq_getElem (by omega)]
        simp

end Go.Proofs.Ytkknglcckjhngaa
