/-
  The walk of LockOnce.
-/
import Derived.Test.YtfniepccldkahaaDoorLkOnceAC
import Derived.Test.YtfniepccldkahaaDoorLkHeldC
import Derived.Test.YtfniepccldkahaaDoorLkNmC
import Derived.Lib.QuietBelow
import Derived.BigQuiet
namespace Go.Proofs.YtfniepccldkahaaDoor
open Go.RowKit Go.Sort
set_option linter.unusedVariables false
set_option linter.unusedSimpArgs false

theorem lkMixedO : Tryd.prog.follows .mixedOrders = true := by kernel_rfl

/-- An act that came in. -/
structure ActIn (w : World) (b o : Nat) (v : Int × Int × Int × Int) : Prop where
  c0 : w.cell? ⟨b, o, none⟩ = some (.int .i64 v.1)
  c1 : w.cell? ⟨b, o + 1, none⟩ = some (.int .i64 v.2.1)
  c2 : w.cell? ⟨b, o + 2, none⟩ = some (.int .i64 v.2.2.1)
  c3 : w.cell? ⟨b, o + 3, none⟩ = some (.int .i64 v.2.2.2)

def ArgActs (w : World) (a : Option Addr) (n : Nat) (A : Nat → Int × Int × Int × Int) : Prop :=
  n = 0 ∨ ∃ b o, a = some ⟨b, o, none⟩ ∧ b < w.heap.size ∧ ∀ i, i < n → ActIn w b (o + i * 4) (A i)

/-- Where LockOnce stands. -/
structure OnAt (w wr : World) (b : Nat) (S : Nat → Prop) (T : Tab) (i : Nat) : Prop where
  bel : Below w.heap.size w wr
  tab : IsTab S wr b T
  inv : TInv T i
  soff : ∀ k, S k → w.heap.size ≤ k

theorem OnAt.below {w wr wx : World} {b : Nat} {S : Nat → Prop} {T : Tab} {i : Nat} (h : OnAt w wr b S T i) (k : Below wr.heap.size wr wx) : OnAt w wx b S T i :=
  ⟨h.bel.trans (k.mono h.bel.size), h.tab.below k, h.inv, h.soff⟩
theorem OnAt.moves {w wr wx : World} {b : Nat} {S S' : Nat → Prop} {T T' : Tab} {i j : Nat} (h : OnAt w wr b S T i) (m : MovesL S S' wr wx) (t : IsTab S' wx b T') (k : TInv T' j) : OnAt w wx b S' T' j :=
  have q := m.below h.soff h.bel h.bel.size
  ⟨q.1, t, k, q.2⟩

/-- Where the loops over what is held stand. -/
structure OnH (w wr : World) (b : Nat) (S : Nat → Prop) (T : Tab) (t : Int) (v : Value) (HL : List (NameV × Int)) : Prop where
  on : OnAt w wr b S T 30
  held : HeldAt w.heap.size wr v HL

theorem OnH.below {w wr wx : World} {b : Nat} {S : Nat → Prop} {T : Tab} {t : Int} {v : Value} {HL : List (NameV × Int)} (h : OnH w wr b S T t v HL) (k : Below wr.heap.size wr wx) : OnH w wx b S T t v HL :=
  ⟨h.on.below k, h.held.below k⟩

theorem HeldAt.from {B B' : Nat} {w : World} {v : Value} {L : List (NameV × Int)} (h : HeldAt B w v L) (k : B' ≤ B) : HeldAt B' w v L := by
  refine ⟨h.1, ?_⟩
  rcases h.2 with ⟨rfl, h1⟩ | ⟨g', cap, cur, rfl, h0, hb, hr⟩
  · exact .inl ⟨rfl, h1⟩
  · exact .inr ⟨g', cap, cur, rfl, Nat.le_trans k h0, hb, hr⟩

set_option maxHeartbeats 6400000 in
set_option maxRecDepth 20000 in
theorem once_walk (hNS : ∀ m, m ≤ 100 → NSorts m) (a : Option Addr) (n c : Nat) (A : Nat → Int × Int × Int × Int) (mode : Int) (w : World) (hl : LkLaid w) (hA : ArgActs w a n A) (hn : n ≤ 9223372036854775807) :
    Calls Tryd.prog 8 #[.slice a n c, .int .i64 mode] w fun e w' => e = .returned (.bool true) ∧ Below w.heap.size w w' := by
  have HN := new_any w
  have HLD : Hid (LkLaid w ∧ 2 ≤ w.heap.size) := ⟨hl, hl.lt⟩
  have HAI : Hid (ArgActs w a n A) := hA
  have HAW : Hid (∀ wx, Below w.heap.size w wx → Calls Tryd.prog 10 #[] wx fun e w' => e = .returned (.bool true) ∧ Below wx.heap.size wx w') := fun wx k => awake_any wx (hl.below hl.lt k)
  have HNM : Hid (∀ (x : Int) (wx : World), Calls Tryd.prog 19 #[.int .i64 x] wx fun e w' => ∃ (nm : NameV) (r0 r1 r2 r3 : Int), NmOk nm ∧ e = .returned (.tuple #[nval nm, .agg #[.int .i64 r0, .int .i64 r1, .int .u32 r2, .int .i64 r3]]) ∧ Below wx.heap.size wx w') := name_ok
  have HMO : Hid (∀ wx : World, Calls Tryd.prog 13 #[.int .i64 mode] wx fun e w' => e = .returned (.bool (modB mode)) ∧ w' = wx) := fun wx => mode_any mode wx
  have HNSH : Hid (∀ m, m ≤ 100 → NSorts m) := hNS
  clear hl hA hNS
  go_enter Tryd.func8, Tryd.ntmps8
  go_wp2_with fail
  refine HN.mono ?_
  rintro e w1 ⟨b, S1, rfl, ht1, b1, hS1⟩
  have HAW1 := HAW.out w1 b1
  clear HN HAW
  go_wp2_with fail
  refine HAW1.mono ?_
  rintro e w2 ⟨rfl, b2⟩
  have H10 : Hid (∃ S T, OnAt w w2 b S T 0) := ⟨S1, emptyT, b1.trans (b2.mono b1.size), ht1.below b2, TInv.empty, hS1⟩
  clear HAW1 ht1 hS1 b1 b2
  go_wp2_with fail
  go_loopw [6] (fun i wr => ∃ j : Nat, j ≤ n ∧ j ≤ 30 ∧ i = .int .i64 (j : Int) ∧ Hid (∃ S T, OnAt w wr b S T j)) (fun i _ => 30 - (intOf i).toNat)
  case atStart => exact ⟨0, by omega, by omega, rfl, H10⟩
  case round =>
    obtain ⟨j, hj, hj30, rfl, H1⟩ := hrel
    clear H10
    by_cases hlt : j < n ∧ j < 30
    · obtain ⟨S, T, hO⟩ := H1.out
      clear H1
      have hi1 : (j : Int) < n := by omega
      have hi0 : (0 : Int) ≤ j := by omega
      have hi2 : (j : Int) < 30 := by omega
      obtain ⟨ab, ao, rfl, hab, hact⟩ : ∃ ab ao, a = some ⟨ab, ao, none⟩ ∧ ab < w.heap.size ∧ ∀ i, i < n → ActIn w ab (ao + i * 4) (A i) := by
        rcases HAI.out with h | h
        · omega
        · exact h
      obtain ⟨q0, q1, q2, q3⟩ := hact j hlt.1
      generalize A j = XX at q0 q1 q2 q3
      obtain ⟨X0, X1, X2, X3⟩ := XX
      simp only at q0 q1 q2 q3
      have keep : Hid (∀ wx, Below w.heap.size w wx → (wx.cell? ⟨ab, ao + j * 4, none⟩ = some (.int .i64 X0) ∧ wx.cell? ⟨ab, ao + j * 4 + 1, none⟩ = some (.int .i64 X1) ∧ wx.cell? ⟨ab, ao + j * 4 + 2, none⟩ = some (.int .i64 X2) ∧ wx.cell? ⟨ab, ao + j * 4 + 3, none⟩ = some (.int .i64 X3))) := fun wx k => by
        have e := k.block ab hab
        exact ⟨(World.cell?_of_block (w := w) (a := ⟨ab, ao + j * 4, none⟩) e).trans q0, (World.cell?_of_block (w := w) (a := ⟨ab, ao + j * 4 + 1, none⟩) e).trans q1, (World.cell?_of_block (w := w) (a := ⟨ab, ao + j * 4 + 2, none⟩) e).trans q2, (World.cell?_of_block (w := w) (a := ⟨ab, ao + j * 4 + 3, none⟩) e).trans q3⟩
      obtain ⟨y0, y1, y2, y3⟩ := keep.out wr hO.bel
      clear q0 q1 q2 q3 hact
      have HOO : Hid (OnAt w wr b S T j) := hO
      clear hO
      go_wp2_with fail
      refine (HNM.out _ _).mono ?_
      rintro e w3 ⟨nm, r0, r1, r2, r3, hok, rfl, b3⟩
      have hO3 := HOO.out.below b3
      have HOK : Hid (NmOk nm) := hok
      clear hok HOO y0 y1 y2 y3 b3
      obtain ⟨z0, z1, z2, z3⟩ := keep.out w3 hO3.bel
      obtain ⟨n0, n1, n2, n3⟩ := nm
      unfold nval
      simp only
      have hand := i64_and3 X1
      have ht4 : 0 ≤ X1 % 4 ∧ X1 % 4 ≤ 3 := by omega
      obtain ⟨t, htt⟩ : ∃ t, X1 % 4 = t := ⟨_, rfl⟩
      rw [htt] at hand ht4
      clear htt
      have hwr : wrap64 (t + 1) = t + 1 := by unfold wrap64; omega
      have B1 : Below w3.heap.size w3 (w3.alloc (.cells #[.int .i64 n0, .int .i64 n1, .int .u32 n2, .int .i64 n3] 42)) := (Below.refl _ _).alloc (Nat.le_refl _) _
      have B2 : Below w3.heap.size w3 ((w3.alloc (.cells #[.int .i64 n0, .int .i64 n1, .int .u32 n2, .int .i64 n3] 42)).alloc (.cells #[.int .i64 r0, .int .i64 r1, .int .u32 r2, .int .i64 r3] 44)) := B1.alloc B1.size _
      have hO4 := hO3.below B2
      obtain ⟨v0, v1, v2, v3⟩ := keep.out _ hO4.bel
      have hab3 : ab < w3.heap.size := Nat.lt_of_lt_of_le hab hO3.bel.size
      have hblt : b < w3.heap.size := by obtain ⟨_, _, _, _, hh⟩ := hO3.tab; exact hh.lt b hh.sb
      have HO4 : Hid (OnAt w ((w3.alloc (.cells #[.int .i64 n0, .int .i64 n1, .int .u32 n2, .int .i64 n3] 42)).alloc (.cells #[.int .i64 r0, .int .i64 r1, .int .u32 r2, .int .i64 r3] 44)) b S T j) := hO4
      have hSlt : ∀ k, S k → k < w3.heap.size := by obtain ⟨_, _, _, _, hh⟩ := hO3.tab; exact hh.lt
      clear hO3 hO4 B1 B2
      have hld4 : Hid (∀ wx, Below w.heap.size w wx → LkLaid wx) := fun wx k => HLD.out.1.below HLD.out.2 k
      have hS0 : Hid (¬ S 0 ∧ ¬ S 1) := ⟨fun x => by have := HO4.out.soff 0 x; have := HLD.out.2; omega, fun x => by have := HO4.out.soff 1 x; have := HLD.out.2; omega⟩
      by_cases h5 : X0 = 5
      · subst h5
        have hR := release_once (hld4.out _ HO4.out.bel) HO4.out.tab HO4.out.inv (by omega) hS0.out HNSH.out (tx := t + 1) ⟨by omega, by omega⟩
        unfold ptr at hR
        go_wp2_with fail
        refine hR.mono ?_
        rintro e w5 ⟨vv, S', T', rfl, k1, k2, k3⟩
        have HF : Hid (∃ S T, OnAt w w5 b S T (j + 1)) := ⟨S', T', HO4.out.moves k3 k1 k2⟩
        clear hR k1 k2 k3 HO4 hld4 hS0
        go_wp2
        go_roundw
        case rel => exact ⟨j + 1, by omega, by omega, by go_num, HF⟩
        case measure => simp [intOf]; omega
      · have h5' : (X0 == 5) = false := by rw [beq_eq_false_iff_ne]; exact h5
        have hbx : ((w3.alloc (.cells #[.int .i64 n0, .int .i64 n1, .int .u32 n2, .int .i64 n3] 42)).alloc (.cells #[.int .i64 r0, .int .i64 r1, .int .u32 r2, .int .i64 r3] 44)).heap[w3.heap.size]? = some (.cells #[.int .i64 n0, .int .i64 n1, .int .u32 n2, .int .i64 n3] 42) := by
          rw [Below.heap_alloc _ _ _ (by simp)]
          exact heap_alloc_new w3 _
        have BD : Below ((w3.alloc (.cells #[.int .i64 n0, .int .i64 n1, .int .u32 n2, .int .i64 n3] 42)).alloc (.cells #[.int .i64 r0, .int .i64 r1, .int .u32 r2, .int .i64 r3] 44)).heap.size ((w3.alloc (.cells #[.int .i64 n0, .int .i64 n1, .int .u32 n2, .int .i64 n3] 42)).alloc (.cells #[.int .i64 r0, .int .i64 r1, .int .u32 r2, .int .i64 r3] 44)) ((w3.alloc (.cells #[.int .i64 n0, .int .i64 n1, .int .u32 n2, .int .i64 n3] 42)).alloc (.cells #[.int .i64 r0, .int .i64 r1, .int .u32 r2, .int .i64 r3] 44)).drew := (Below.refl _ _).drew
        have hOd := HO4.out.below BD
        have hK := ask_once (hld4.out _ hOd.bel) hOd.tab hOd.inv (by omega) (tx := t + 1) ⟨by omega, by omega⟩ HOK.out X3
        have hno : ¬ S w3.heap.size := fun x => by have := hSlt _ x; omega
        have HK : Hid (Calls Tryd.prog 22 #[.pointer (some ⟨b, 0, none⟩), .int .i64 (t + 1), .agg #[.int .i64 n0, .int .i64 n1, .int .u32 n2, .int .i64 n3], .int .i64 X3, .bool false, .bool true] ((w3.alloc (.cells #[.int .i64 n0, .int .i64 n1, .int .u32 n2, .int .i64 n3] 42)).alloc (.cells #[.int .i64 r0, .int .i64 r1, .int .u32 r2, .int .i64 r3] 44)).drew fun e w' => ∃ (r : Bool) (c : Int), e = .returned (.tuple #[.bool r, .int .i64 c]) ∧ ((w'.cell? ⟨w3.heap.size, 0, none⟩ = some (.int .i64 n0) ∧ w'.cell? ⟨w3.heap.size, 1, none⟩ = some (.int .i64 n1) ∧ w'.cell? ⟨w3.heap.size, 2, none⟩ = some (.int .u32 n2) ∧ w'.cell? ⟨w3.heap.size, 3, none⟩ = some (.int .i64 n3)) ∧ w'.cell? ⟨ab, ao + j * 4 + 3, none⟩ = some (.int .i64 X3)) ∧ Hid (∃ S T, OnAt w w' b S T (j + 1))) := by
          refine hK.mono ?_
          rintro e w' ⟨r, c, S', T', rfl, k1, k2, k3⟩
          have hO5 := hOd.moves k3 k1 k2
          have f := (k3.off (r := w3.heap.size) (by simp [World.drew]; omega) hno).1.trans hbx
          exact ⟨r, c, rfl, ⟨⟨by simp [World.cell?, f], by simp [World.cell?, f], by simp [World.cell?, f], by simp [World.cell?, f]⟩, (keep.out w' hO5.bel).2.2.2⟩, S', T', hO5⟩
        have x0 : ((w3.alloc (.cells #[.int .i64 n0, .int .i64 n1, .int .u32 n2, .int .i64 n3] 42)).alloc (.cells #[.int .i64 r0, .int .i64 r1, .int .u32 r2, .int .i64 r3] 44)).cell? ⟨w3.heap.size, 0, none⟩ = some (.int .i64 n0) := by simp [World.cell?, hbx]
        have x1 : ((w3.alloc (.cells #[.int .i64 n0, .int .i64 n1, .int .u32 n2, .int .i64 n3] 42)).alloc (.cells #[.int .i64 r0, .int .i64 r1, .int .u32 r2, .int .i64 r3] 44)).cell? ⟨w3.heap.size, 1, none⟩ = some (.int .i64 n1) := by simp [World.cell?, hbx]
        have x2 : ((w3.alloc (.cells #[.int .i64 n0, .int .i64 n1, .int .u32 n2, .int .i64 n3] 42)).alloc (.cells #[.int .i64 r0, .int .i64 r1, .int .u32 r2, .int .i64 r3] 44)).cell? ⟨w3.heap.size, 2, none⟩ = some (.int .u32 n2) := by simp [World.cell?, hbx]
        have x3 : ((w3.alloc (.cells #[.int .i64 n0, .int .i64 n1, .int .u32 n2, .int .i64 n3] 42)).alloc (.cells #[.int .i64 r0, .int .i64 r1, .int .u32 r2, .int .i64 r3] 44)).cell? ⟨w3.heap.size, 3, none⟩ = some (.int .i64 n3) := by simp [World.cell?, hbx]
        clear hK hOd BD hbx HO4 hld4 hS0
        go_wp2_with fail
        generalize ((w3.alloc (.cells #[.int .i64 n0, .int .i64 n1, .int .u32 n2, .int .i64 n3] 42)).alloc (.cells #[.int .i64 r0, .int .i64 r1, .int .u32 r2, .int .i64 r3] 44)) = W at *
        go_region_held3 (fun wy => (wy.cell? ⟨w3.heap.size, 0, none⟩ = some (.int .i64 n0) ∧ wy.cell? ⟨w3.heap.size, 1, none⟩ = some (.int .i64 n1) ∧ wy.cell? ⟨w3.heap.size, 2, none⟩ = some (.int .u32 n2) ∧ wy.cell? ⟨w3.heap.size, 3, none⟩ = some (.int .i64 n3)) ∧ wy.cell? ⟨ab, ao + j * 4 + 3, none⟩ = some (.int .i64 X3)) (first | go_keep | exact sb)
          (first | (go_at_call 22; refine HK.out.mono ?_; rintro x w5 ⟨rr, cc, rfl, sb, HF⟩))
        clear HK sb x0 x1 x2 x3 v0 v1 v2 v3
        go_wp2
        go_roundw
        case rel => exact ⟨j + 1, by omega, by omega, by go_num, HF⟩
        case measure => simp [intOf]; omega
    · obtain ⟨S, T, hO⟩ := H1.out
      have H20 : Hid (∃ S T, OnAt w wr b S T 30) := ⟨S, T, hO.bel, hO.tab, hO.inv.mono hj30, hO.soff⟩
      clear H1 hO
      have hne : ¬ ((j : Int) < n ∧ (j : Int) < 30) := by omega
      by_cases hjn : (j : Int) < n
      · have hj3 : ¬ (j : Int) < 30 := by omega
        clear hne hlt
        go_wp2_with fail
        go_loopw [10] (fun i wr => ∃ t : Nat, 1 ≤ t ∧ t ≤ 5 ∧ i = .int .i64 (t : Int) ∧ Hid (∃ S T, OnAt w wr b S T 30)) (fun i _ => 5 - (intOf i).toNat)
        case atStart => exact ⟨1, by omega, by omega, rfl, H20⟩
        case round =>
          obtain ⟨t, ht1, ht5, rfl, H2⟩ := hrel
          clear H20
          by_cases h4 : t ≤ 4
          · obtain ⟨S, T, hO⟩ := H2.out
            clear H2
            have h4' : (t : Int) ≤ 4 := by omega
            have hW := waits_any hO.tab (t : Int) ⟨by omega, by omega⟩
            cases hw : T.W (t : Int) with
            | some m =>
              rw [hw] at hW
              simp only [Option.isSome_some] at hW
              have HO : Hid (OnAt w wr b S T 30) := hO
              clear hO hw
              go_wp2_with fail
              refine hW.mono ?_
              rintro e w3 ⟨rfl, b3⟩
              have HF : Hid (∃ S T, OnAt w w3 b S T 30) := ⟨S, T, HO.out.below b3⟩
              clear hW b3 HO
              go_wp2
              go_roundw
              case rel => exact ⟨t + 1, by omega, by omega, by go_num, HF⟩
              case measure => simp [intOf]; omega
            | none =>
              rw [hw] at hW
              simp only [Option.isSome_none] at hW
              have HO : Hid (OnAt w wr b S T 30) := hO
              have HWN : Hid (T.W (t : Int) = none) := hw
              clear hO hw
              go_wp2_with fail
              refine hW.mono ?_
              rintro e w3 ⟨rfl, b3⟩
              have HO3 : Hid (OnAt w w3 b S T 30) := HO.out.below b3
              clear hW b3 HO
              have hHd := held_any HO3.out.tab (t : Int) (by have := HO3.out.inv.z; omega) (fun n => by have := (HO3.out.inv.q n).len; omega) (HNSH.out T.z (by have := HO3.out.inv.z; omega))
              unfold ptr at hHd
              go_wp2_with fail
              refine hHd.mono ?_
              rintro e w4 ⟨v11, HL, rfl, hh, hok, hlen, b4⟩
              have H30 : Hid (OnH w w4 b S T (t : Int) v11 HL) := ⟨HO3.out.below b4, hh.from (by have := HO3.out.bel.size; omega)⟩
              obtain ⟨a11, c11, rfl⟩ := hh.val
              have HOKH : Hid (HeldOk T (t : Int) HL) := hok
              have hHL : HL.length ≤ 30 := by have := HO3.out.inv.z; omega
              clear hHd hh hok hlen b4 HO3
              go_wp2_with fail
              go_loopw [12] (fun i wr => ∃ p : Nat, p ≤ HL.length ∧ i = .int .i64 (p : Int) ∧ Hid (OnH w wr b S T (t : Int) (.slice a11 HL.length c11) HL)) (fun i _ => HL.length - (intOf i).toNat)
              case atStart => exact ⟨0, by omega, rfl, H30⟩
              case round =>
                obtain ⟨p, hp, rfl, H3⟩ := hrel
                clear H30
                by_cases hpl : p < HL.length
                · obtain ⟨g, cap, e11, hgB, hg, hd⟩ := H3.out.held.open p hpl
                  cases e11
                  have HC : Hid (∀ wx, OnH w wx b S T (t : Int) (.slice (some ⟨g, 0, none⟩) HL.length c11) HL → HdAt wx g (p * 5) HL[p]) := fun wx h => by
                    obtain ⟨g', cap', e', _, _, hd'⟩ := h.held.open p hpl
                    have := (Value.slice.inj e').1
                    have hgg : g = g' := by simpa using this
                    rw [hgg]
                    exact hd'
                  have hpk := HOKH.out HL[p] (List.getElem_mem hpl)
                  clear hd
                  generalize HL[p] = PP at *
                  obtain ⟨⟨n0, n1, n2, n3⟩, M⟩ := PP
                  simp only at hpk
                  obtain ⟨⟨l, hkey⟩, hM, hM0⟩ := hpk
                  have HKY : Hid (NKey (n0, n1, n2, n3) l) := hkey
                  have HMQ : Hid (M = (oneF (T.Q (n0, n1, n2, n3)) (t : Int)).2.1) := hM
                  have hMr : 1 ≤ M ∧ M ≤ 5 := by have := (H3.out.on.inv.q (n0, n1, n2, n3)).one (t : Int); rw [← hM] at this; omega
                  have hp0 : (0 : Int) ≤ p := by omega
                  have hp1 : (p : Int) < HL.length := by omega
                  clear hkey hM hg hgB
                  go_wp2_with fail
                  go_loopw [13] (fun i wr => ∃ m : Nat, 1 ≤ m ∧ m ≤ 6 ∧ i = .int .i64 (m : Int) ∧ Hid (OnH w wr b S T (t : Int) (.slice (some ⟨g, 0, none⟩) HL.length c11) HL)) (fun i _ => 6 - (intOf i).toNat)
                  case atStart => exact ⟨1, by omega, by omega, rfl, H3⟩
                  case round =>
                    obtain ⟨m, hm1, hm6, rfl, H4⟩ := hrel
                    clear H3
                    obtain ⟨⟨z0, z1, z2, z3⟩, z4⟩ := HC.out wr H4.out
                    simp only at z0 z1 z2 z3 z4
                    by_cases hmM : (m : Int) ≤ M
                    · have HD : Hid (OnH w wr.drew b S T (t : Int) (.slice (some ⟨g, 0, none⟩) HL.length c11) HL) := H4.out.below ((Below.refl _ _).drew)
                      have hJ := join_any M (m : Int) wr.drew (HLD.out.1.below HLD.out.2 HD.out.on.bel)
                      obtain ⟨J, HJ⟩ : ∃ J, Hid (joinF M (m : Int) = J) := ⟨_, rfl⟩
                      rw [HJ.out] at hJ
                      clear H4
                      by_cases hjm : J = M
                      · subst hjm
                        have hbb : (J != J) = false := by simp
                        go_wp2_with fail
                        go_region_held3 (fun wy => wy.cell? ⟨g, p * 5 + 4, none⟩ = some (.int .i64 J)) (first | go_keep)
                          (first | (go_at_call 17; refine hJ.mono ?_; rintro x wb ⟨rfl, rfl⟩))
                        clear hJ z0 z1 z2 z3 z4
                        obtain ⟨⟨z0, z1, z2, z3⟩, z4⟩ := HC.out wr.drew HD.out
                        simp only at z0 z1 z2 z3 z4
                        have hAs := ask_again (HLD.out.1.below HLD.out.2 HD.out.on.bel) HD.out.on.tab HD.out.on.inv (by omega) (tx := (t : Int)) ⟨by omega, by omega⟩ HWN.out HKY.out (m := (m : Int)) (by omega) (by rw [← HMQ.out]; exact hmM) (by rw [← HMQ.out]; exact HJ.out)
                        unfold ptr nval at hAs
                        simp only at hAs
                        generalize wr.drew = wd at *
                        go_wp2_with fail
                        refine hAs.mono ?_
                        rintro e w5 ⟨rfl, b5⟩
                        have H5 : Hid (OnH w w5 b S T (t : Int) (.slice (some ⟨g, 0, none⟩) HL.length c11) HL) := HD.out.below b5
                        clear hAs b5 HD z0 z1 z2 z3 z4
                        obtain ⟨⟨q0, q1, q2, q3⟩, q4⟩ := HC.out w5 H5.out
                        simp only at q0 q1 q2 q3 q4
                        have cH : ∀ dd os, Calls Tryd.prog 26 #[.pointer (some ⟨b, 0, none⟩), .int .i64 (t : Int), .agg #[.int .i64 n0, .int .i64 n1, .int .u32 n2, .int .i64 n3]] (grow (redrawn w5 dd) os) fun e w'' => e = .returned (.int .i64 J) ∧ ∃ p : Regrown, w'' = grow (redrawn w5 p.d) p.os := fun dd os => by
                          refine Calls.regrown_of ?_
                          have := has_any (H5.out.below (below_regrown w5 dd os)).on.tab (t : Int) (n0, n1, n2, n3) l HKY.out
                          rw [← HMQ.out] at this
                          exact this
                        have g0 := cell_regrown q0
                        have g1 := cell_regrown q1
                        have g2 := cell_regrown q2
                        have g3 := cell_regrown q3
                        have g4 := cell_regrown q4
                        clear q0 q1 q2 q3 q4
                        go_upto_region 25 with fail
                        refine wp_region_quiet_below lkMixedO (by kernel_rfl) ?_
                        repeat (first | go_big_quiet_step (first | (go_at_call 26; exact cH _ _)) | quiet_step (first | (go_at_call 26; exact cH _ _)))
                        refine wpQuiet_nil ?_
                        intro _ hw'
                        obtain ⟨⟨dq, osq⟩, hw''⟩ := hw'
                        have b7 := below_regrown w5 dq osq
                        rw [← hw''] at b7
                        rename_i w9
                        clear hw'' g0 g1 g2 g3 g4 cH
                        have HF : Hid (OnH w w9 b S T (t : Int) (.slice (some ⟨g, 0, none⟩) HL.length c11) HL) := H5.out.below b7
                        clear b7 H5
                        go_wp2
                        go_roundw
                        case rel => exact ⟨m + 1, by omega, by omega, by go_num, HF⟩
                        case measure => simp [intOf]; omega
                      · have hbb : (J != M) = true := by rw [bne_iff_ne]; exact hjm
                        go_wp2_with fail
                        go_region_held3 (fun wy => wy.cell? ⟨g, p * 5 + 4, none⟩ = some (.int .i64 M)) (first | go_keep)
                          (first | (go_at_call 17; refine hJ.mono ?_; rintro x wb ⟨rfl, rfl⟩))
                        clear hJ z0 z1 z2 z3 z4
                        generalize wr.drew = wd at *
                        go_wp2
                        go_roundw
                        case rel => exact ⟨m + 1, by omega, by omega, by go_num, HD⟩
                        case measure => simp [intOf]; omega
                    · clear z0 z1 z2 z3
                      go_wp2
                      go_roundw
                      case rel => exact ⟨p + 1, by omega, by go_num, H4⟩
                      case measure => simp [intOf]; omega
                · have hpe : ¬ (p : Int) < HL.length := by omega
                  have HOO : Hid (OnAt w wr b S T 30) := H3.out.on
                  clear H3 HOKH
                  have W1 : Below wr.heap.size wr (wr.alloc (.cells #[.int .i64 3, .int .i64 99, .int .u32 0, .int .i64 0] 42)) := (Below.refl _ _).alloc (Nat.le_refl _) _
                  have hO1 := HOO.out.below W1
                  have hbx : (wr.alloc (.cells #[.int .i64 3, .int .i64 99, .int .u32 0, .int .i64 0] 42)).heap[wr.heap.size]? = some (.cells #[.int .i64 3, .int .i64 99, .int .u32 0, .int .i64 0] 42) := heap_alloc_new wr _
                  have hLn := len_any hO1.tab
                  have hAf := ask_fresh (HLD.out.1.below HLD.out.2 hO1.bel) hO1.tab hO1.inv (by omega) (tx := (t : Int)) ⟨by omega, by omega⟩ HWN.out
                  have hno : ¬ S wr.heap.size := fun x => by obtain ⟨_, _, _, _, hh⟩ := HOO.out.tab; have := hh.lt _ x; omega
                  have HAf : Hid (Calls Tryd.prog 22 #[.pointer (some ⟨b, 0, none⟩), .int .i64 (t : Int), .agg #[.int .i64 3, .int .i64 99, .int .u32 0, .int .i64 0], .int .i64 5, .bool true, .bool true] (wr.alloc (.cells #[.int .i64 3, .int .i64 99, .int .u32 0, .int .i64 0] 42)) fun e w' => e = .returned (.tuple #[.bool true, .int .i64 0]) ∧ w'.heap[wr.heap.size]? = some (.cells #[.int .i64 3, .int .i64 99, .int .u32 0, .int .i64 0] 42) ∧ Hid (∃ S', OnAt w w' b S' T 30)) := by
                    refine hAf.mono ?_
                    rintro e w' ⟨rfl, S', k1, k2⟩
                    exact ⟨rfl, (k2.off (r := wr.heap.size) (by simp) hno).1.trans hbx, S', hO1.moves k2 k1 hO1.inv⟩
                  unfold ptr at hLn
                  clear hAf hO1 hbx W1
                  go_wp2_with fail
                  refine hLn.mono ?_
                  rintro e w5 ⟨rfl, rfl⟩
                  go_wp2_with fail
                  refine HAf.out.mono ?_
                  rintro e w6 ⟨rfl, hb6, HO6⟩
                  obtain ⟨S', hO6⟩ := HO6.out
                  have x0 : w6.cell? ⟨wr.heap.size, 0, none⟩ = some (.int .i64 3) := by simp [World.cell?, hb6]
                  have x1 : w6.cell? ⟨wr.heap.size, 1, none⟩ = some (.int .i64 99) := by simp [World.cell?, hb6]
                  have x2 : w6.cell? ⟨wr.heap.size, 2, none⟩ = some (.int .u32 0) := by simp [World.cell?, hb6]
                  have x3 : w6.cell? ⟨wr.heap.size, 3, none⟩ = some (.int .i64 0) := by simp [World.cell?, hb6]
                  have hL6 := len_any hO6.tab
                  have hH6 : Calls Tryd.prog 26 #[.pointer (some ⟨b, 0, none⟩), .int .i64 (t : Int), .agg #[.int .i64 3, .int .i64 99, .int .u32 0, .int .i64 0]] w6 fun e w' => e = .returned (.int .i64 0) ∧ Below w6.heap.size w6 w' := by
                    obtain ⟨l, hk⟩ := freshKey
                    have hq : T.Q freshN = [] := Classical.byContradiction fun x => (hO6.inv.nm _ x).2 rfl
                    have := has_any hO6.tab (t : Int) freshN l hk
                    rw [hq] at this
                    exact this
                  unfold ptr at hL6
                  have HOS : Hid (OnAt w w6 b S' T 30) := hO6
                  have hzz : ((T.z : Int) != (T.z : Int)) = false := by simp
                  clear HAf hO6 HO6 hLn hb6
                  go_wp2_with fail
                  refine hL6.mono ?_
                  rintro e w7 ⟨rfl, rfl⟩
                  go_wp2_with fail
                  refine hH6.mono ?_
                  rintro e w8 ⟨rfl, b8⟩
                  have HF : Hid (∃ S T, OnAt w w8 b S T 30) := ⟨S', T, HOS.out.below b8⟩
                  clear hL6 hH6 HOS b8 x0 x1 x2 x3
                  go_wp2
                  go_roundw
                  case rel => exact ⟨t + 1, by omega, by omega, by go_num, HF⟩
                  case measure => simp [intOf]; omega
          · obtain rfl : t = 5 := by omega
            have HB : Hid (Below w.heap.size w wr) := by obtain ⟨S, T, hO⟩ := H2.out; exact hO.bel
            have hMd := HMO.out wr
            clear H2
            by_cases hm : 1 ≤ mode
            · by_cases hm2 : mode ≤ 5
              · have hmb : modB mode = true := by unfold modB; simp; omega
                rw [hmb] at hMd
                go_wp2_with fail
                refine hMd.mono ?_
                rintro e w9 ⟨rfl, rfl⟩
                go_wp2
                go_ret
                exact ⟨rfl, HB.out⟩
              · have hmb : modB mode = false := by unfold modB; simp; omega
                rw [hmb] at hMd
                go_wp2_with fail
                refine hMd.mono ?_
                rintro e w9 ⟨rfl, rfl⟩
                go_wp2
                go_ret
                exact ⟨by show Ending.returned (.bool (!decide (mode ≤ 5))) = _; rw [decide_eq_false (by omega)]; rfl, HB.out⟩
            · have hmb : modB mode = false := by unfold modB; simp; omega
              rw [hmb] at hMd
              go_wp2_with fail
              refine hMd.mono ?_
              rintro e w9 ⟨rfl, rfl⟩
              go_wp2
              go_ret
              exact ⟨rfl, HB.out⟩
      · clear hne hlt
        go_wp2_with fail
        go_loopw [10] (fun i wr => ∃ t : Nat, 1 ≤ t ∧ t ≤ 5 ∧ i = .int .i64 (t : Int) ∧ Hid (∃ S T, OnAt w wr b S T 30)) (fun i _ => 5 - (intOf i).toNat)
        case atStart => exact ⟨1, by omega, by omega, rfl, H20⟩
        case round =>
          obtain ⟨t, ht1, ht5, rfl, H2⟩ := hrel
          clear H20
          by_cases h4 : t ≤ 4
          · obtain ⟨S, T, hO⟩ := H2.out
            clear H2
            have h4' : (t : Int) ≤ 4 := by omega
            have hW := waits_any hO.tab (t : Int) ⟨by omega, by omega⟩
            cases hw : T.W (t : Int) with
            | some m =>
              rw [hw] at hW
              simp only [Option.isSome_some] at hW
              have HO : Hid (OnAt w wr b S T 30) := hO
              clear hO hw
              go_wp2_with fail
              refine hW.mono ?_
              rintro e w3 ⟨rfl, b3⟩
              have HF : Hid (∃ S T, OnAt w w3 b S T 30) := ⟨S, T, HO.out.below b3⟩
              clear hW b3 HO
              go_wp2
              go_roundw
              case rel => exact ⟨t + 1, by omega, by omega, by go_num, HF⟩
              case measure => simp [intOf]; omega
            | none =>
              rw [hw] at hW
              simp only [Option.isSome_none] at hW
              have HO : Hid (OnAt w wr b S T 30) := hO
              have HWN : Hid (T.W (t : Int) = none) := hw
              clear hO hw
              go_wp2_with fail
              refine hW.mono ?_
              rintro e w3 ⟨rfl, b3⟩
              have HO3 : Hid (OnAt w w3 b S T 30) := HO.out.below b3
              clear hW b3 HO
              have hHd := held_any HO3.out.tab (t : Int) (by have := HO3.out.inv.z; omega) (fun n => by have := (HO3.out.inv.q n).len; omega) (HNSH.out T.z (by have := HO3.out.inv.z; omega))
              unfold ptr at hHd
              go_wp2_with fail
              refine hHd.mono ?_
              rintro e w4 ⟨v11, HL, rfl, hh, hok, hlen, b4⟩
              have H30 : Hid (OnH w w4 b S T (t : Int) v11 HL) := ⟨HO3.out.below b4, hh.from (by have := HO3.out.bel.size; omega)⟩
              obtain ⟨a11, c11, rfl⟩ := hh.val
              have HOKH : Hid (HeldOk T (t : Int) HL) := hok
              have hHL : HL.length ≤ 30 := by have := HO3.out.inv.z; omega
              clear hHd hh hok hlen b4 HO3
              go_wp2_with fail
              go_loopw [12] (fun i wr => ∃ p : Nat, p ≤ HL.length ∧ i = .int .i64 (p : Int) ∧ Hid (OnH w wr b S T (t : Int) (.slice a11 HL.length c11) HL)) (fun i _ => HL.length - (intOf i).toNat)
              case atStart => exact ⟨0, by omega, rfl, H30⟩
              case round =>
                obtain ⟨p, hp, rfl, H3⟩ := hrel
                clear H30
                by_cases hpl : p < HL.length
                · obtain ⟨g, cap, e11, hgB, hg, hd⟩ := H3.out.held.open p hpl
                  cases e11
                  have HC : Hid (∀ wx, OnH w wx b S T (t : Int) (.slice (some ⟨g, 0, none⟩) HL.length c11) HL → HdAt wx g (p * 5) HL[p]) := fun wx h => by
                    obtain ⟨g', cap', e', _, _, hd'⟩ := h.held.open p hpl
                    have := (Value.slice.inj e').1
                    have hgg : g = g' := by simpa using this
                    rw [hgg]
                    exact hd'
                  have hpk := HOKH.out HL[p] (List.getElem_mem hpl)
                  clear hd
                  generalize HL[p] = PP at *
                  obtain ⟨⟨n0, n1, n2, n3⟩, M⟩ := PP
                  simp only at hpk
                  obtain ⟨⟨l, hkey⟩, hM, hM0⟩ := hpk
                  have HKY : Hid (NKey (n0, n1, n2, n3) l) := hkey
                  have HMQ : Hid (M = (oneF (T.Q (n0, n1, n2, n3)) (t : Int)).2.1) := hM
                  have hMr : 1 ≤ M ∧ M ≤ 5 := by have := (H3.out.on.inv.q (n0, n1, n2, n3)).one (t : Int); rw [← hM] at this; omega
                  have hp0 : (0 : Int) ≤ p := by omega
                  have hp1 : (p : Int) < HL.length := by omega
                  clear hkey hM hg hgB
                  go_wp2_with fail
                  go_loopw [13] (fun i wr => ∃ m : Nat, 1 ≤ m ∧ m ≤ 6 ∧ i = .int .i64 (m : Int) ∧ Hid (OnH w wr b S T (t : Int) (.slice (some ⟨g, 0, none⟩) HL.length c11) HL)) (fun i _ => 6 - (intOf i).toNat)
                  case atStart => exact ⟨1, by omega, by omega, rfl, H3⟩
                  case round =>
                    obtain ⟨m, hm1, hm6, rfl, H4⟩ := hrel
                    clear H3
                    obtain ⟨⟨z0, z1, z2, z3⟩, z4⟩ := HC.out wr H4.out
                    simp only at z0 z1 z2 z3 z4
                    by_cases hmM : (m : Int) ≤ M
                    · have HD : Hid (OnH w wr.drew b S T (t : Int) (.slice (some ⟨g, 0, none⟩) HL.length c11) HL) := H4.out.below ((Below.refl _ _).drew)
                      have hJ := join_any M (m : Int) wr.drew (HLD.out.1.below HLD.out.2 HD.out.on.bel)
                      obtain ⟨J, HJ⟩ : ∃ J, Hid (joinF M (m : Int) = J) := ⟨_, rfl⟩
                      rw [HJ.out] at hJ
                      clear H4
                      by_cases hjm : J = M
                      · subst hjm
                        have hbb : (J != J) = false := by simp
                        go_wp2_with fail
                        go_region_held3 (fun wy => wy.cell? ⟨g, p * 5 + 4, none⟩ = some (.int .i64 J)) (first | go_keep)
                          (first | (go_at_call 17; refine hJ.mono ?_; rintro x wb ⟨rfl, rfl⟩))
                        clear hJ z0 z1 z2 z3 z4
                        obtain ⟨⟨z0, z1, z2, z3⟩, z4⟩ := HC.out wr.drew HD.out
                        simp only at z0 z1 z2 z3 z4
                        have hAs := ask_again (HLD.out.1.below HLD.out.2 HD.out.on.bel) HD.out.on.tab HD.out.on.inv (by omega) (tx := (t : Int)) ⟨by omega, by omega⟩ HWN.out HKY.out (m := (m : Int)) (by omega) (by rw [← HMQ.out]; exact hmM) (by rw [← HMQ.out]; exact HJ.out)
                        unfold ptr nval at hAs
                        simp only at hAs
                        generalize wr.drew = wd at *
                        go_wp2_with fail
                        refine hAs.mono ?_
                        rintro e w5 ⟨rfl, b5⟩
                        have H5 : Hid (OnH w w5 b S T (t : Int) (.slice (some ⟨g, 0, none⟩) HL.length c11) HL) := HD.out.below b5
                        clear hAs b5 HD z0 z1 z2 z3 z4
                        obtain ⟨⟨q0, q1, q2, q3⟩, q4⟩ := HC.out w5 H5.out
                        simp only at q0 q1 q2 q3 q4
                        have cH : ∀ dd os, Calls Tryd.prog 26 #[.pointer (some ⟨b, 0, none⟩), .int .i64 (t : Int), .agg #[.int .i64 n0, .int .i64 n1, .int .u32 n2, .int .i64 n3]] (grow (redrawn w5 dd) os) fun e w'' => e = .returned (.int .i64 J) ∧ ∃ p : Regrown, w'' = grow (redrawn w5 p.d) p.os := fun dd os => by
                          refine Calls.regrown_of ?_
                          have := has_any (H5.out.below (below_regrown w5 dd os)).on.tab (t : Int) (n0, n1, n2, n3) l HKY.out
                          rw [← HMQ.out] at this
                          exact this
                        have g0 := cell_regrown q0
                        have g1 := cell_regrown q1
                        have g2 := cell_regrown q2
                        have g3 := cell_regrown q3
                        have g4 := cell_regrown q4
                        clear q0 q1 q2 q3 q4
                        go_upto_region 25 with fail
                        refine wp_region_quiet_below lkMixedO (by kernel_rfl) ?_
                        repeat (first | go_big_quiet_step (first | (go_at_call 26; exact cH _ _)) | quiet_step (first | (go_at_call 26; exact cH _ _)))
                        refine wpQuiet_nil ?_
                        intro _ hw'
                        obtain ⟨⟨dq, osq⟩, hw''⟩ := hw'
                        have b7 := below_regrown w5 dq osq
                        rw [← hw''] at b7
                        rename_i w9
                        clear hw'' g0 g1 g2 g3 g4 cH
                        have HF : Hid (OnH w w9 b S T (t : Int) (.slice (some ⟨g, 0, none⟩) HL.length c11) HL) := H5.out.below b7
                        clear b7 H5
                        go_wp2
                        go_roundw
                        case rel => exact ⟨m + 1, by omega, by omega, by go_num, HF⟩
                        case measure => simp [intOf]; omega
                      · have hbb : (J != M) = true := by rw [bne_iff_ne]; exact hjm
                        go_wp2_with fail
                        go_region_held3 (fun wy => wy.cell? ⟨g, p * 5 + 4, none⟩ = some (.int .i64 M)) (first | go_keep)
                          (first | (go_at_call 17; refine hJ.mono ?_; rintro x wb ⟨rfl, rfl⟩))
                        clear hJ z0 z1 z2 z3 z4
                        generalize wr.drew = wd at *
                        go_wp2
                        go_roundw
                        case rel => exact ⟨m + 1, by omega, by omega, by go_num, HD⟩
                        case measure => simp [intOf]; omega
                    · clear z0 z1 z2 z3
                      go_wp2
                      go_roundw
                      case rel => exact ⟨p + 1, by omega, by go_num, H4⟩
                      case measure => simp [intOf]; omega
                · have hpe : ¬ (p : Int) < HL.length := by omega
                  have HOO : Hid (OnAt w wr b S T 30) := H3.out.on
                  clear H3 HOKH
                  have W1 : Below wr.heap.size wr (wr.alloc (.cells #[.int .i64 3, .int .i64 99, .int .u32 0, .int .i64 0] 42)) := (Below.refl _ _).alloc (Nat.le_refl _) _
                  have hO1 := HOO.out.below W1
                  have hbx : (wr.alloc (.cells #[.int .i64 3, .int .i64 99, .int .u32 0, .int .i64 0] 42)).heap[wr.heap.size]? = some (.cells #[.int .i64 3, .int .i64 99, .int .u32 0, .int .i64 0] 42) := heap_alloc_new wr _
                  have hLn := len_any hO1.tab
                  have hAf := ask_fresh (HLD.out.1.below HLD.out.2 hO1.bel) hO1.tab hO1.inv (by omega) (tx := (t : Int)) ⟨by omega, by omega⟩ HWN.out
                  have hno : ¬ S wr.heap.size := fun x => by obtain ⟨_, _, _, _, hh⟩ := HOO.out.tab; have := hh.lt _ x; omega
                  have HAf : Hid (Calls Tryd.prog 22 #[.pointer (some ⟨b, 0, none⟩), .int .i64 (t : Int), .agg #[.int .i64 3, .int .i64 99, .int .u32 0, .int .i64 0], .int .i64 5, .bool true, .bool true] (wr.alloc (.cells #[.int .i64 3, .int .i64 99, .int .u32 0, .int .i64 0] 42)) fun e w' => e = .returned (.tuple #[.bool true, .int .i64 0]) ∧ w'.heap[wr.heap.size]? = some (.cells #[.int .i64 3, .int .i64 99, .int .u32 0, .int .i64 0] 42) ∧ Hid (∃ S', OnAt w w' b S' T 30)) := by
                    refine hAf.mono ?_
                    rintro e w' ⟨rfl, S', k1, k2⟩
                    exact ⟨rfl, (k2.off (r := wr.heap.size) (by simp) hno).1.trans hbx, S', hO1.moves k2 k1 hO1.inv⟩
                  unfold ptr at hLn
                  clear hAf hO1 hbx W1
                  go_wp2_with fail
                  refine hLn.mono ?_
                  rintro e w5 ⟨rfl, rfl⟩
                  go_wp2_with fail
                  refine HAf.out.mono ?_
                  rintro e w6 ⟨rfl, hb6, HO6⟩
                  obtain ⟨S', hO6⟩ := HO6.out
                  have x0 : w6.cell? ⟨wr.heap.size, 0, none⟩ = some (.int .i64 3) := by simp [World.cell?, hb6]
                  have x1 : w6.cell? ⟨wr.heap.size, 1, none⟩ = some (.int .i64 99) := by simp [World.cell?, hb6]
                  have x2 : w6.cell? ⟨wr.heap.size, 2, none⟩ = some (.int .u32 0) := by simp [World.cell?, hb6]
                  have x3 : w6.cell? ⟨wr.heap.size, 3, none⟩ = some (.int .i64 0) := by simp [World.cell?, hb6]
                  have hL6 := len_any hO6.tab
                  have hH6 : Calls Tryd.prog 26 #[.pointer (some ⟨b, 0, none⟩), .int .i64 (t : Int), .agg #[.int .i64 3, .int .i64 99, .int .u32 0, .int .i64 0]] w6 fun e w' => e = .returned (.int .i64 0) ∧ Below w6.heap.size w6 w' := by
                    obtain ⟨l, hk⟩ := freshKey
                    have hq : T.Q freshN = [] := Classical.byContradiction fun x => (hO6.inv.nm _ x).2 rfl
                    have := has_any hO6.tab (t : Int) freshN l hk
                    rw [hq] at this
                    exact this
                  unfold ptr at hL6
                  have HOS : Hid (OnAt w w6 b S' T 30) := hO6
                  have hzz : ((T.z : Int) != (T.z : Int)) = false := by simp
                  clear HAf hO6 HO6 hLn hb6
                  go_wp2_with fail
                  refine hL6.mono ?_
                  rintro e w7 ⟨rfl, rfl⟩
                  go_wp2_with fail
                  refine hH6.mono ?_
                  rintro e w8 ⟨rfl, b8⟩
                  have HF : Hid (∃ S T, OnAt w w8 b S T 30) := ⟨S', T, HOS.out.below b8⟩
                  clear hL6 hH6 HOS b8 x0 x1 x2 x3
                  go_wp2
                  go_roundw
                  case rel => exact ⟨t + 1, by omega, by omega, by go_num, HF⟩
                  case measure => simp [intOf]; omega
          · obtain rfl : t = 5 := by omega
            have HB : Hid (Below w.heap.size w wr) := by obtain ⟨S, T, hO⟩ := H2.out; exact hO.bel
            have hMd := HMO.out wr
            clear H2
            by_cases hm : 1 ≤ mode
            · by_cases hm2 : mode ≤ 5
              · have hmb : modB mode = true := by unfold modB; simp; omega
                rw [hmb] at hMd
                go_wp2_with fail
                refine hMd.mono ?_
                rintro e w9 ⟨rfl, rfl⟩
                go_wp2
                go_ret
                exact ⟨rfl, HB.out⟩
              · have hmb : modB mode = false := by unfold modB; simp; omega
                rw [hmb] at hMd
                go_wp2_with fail
                refine hMd.mono ?_
                rintro e w9 ⟨rfl, rfl⟩
                go_wp2
                go_ret
                exact ⟨by show Ending.returned (.bool (!decide (mode ≤ 5))) = _; rw [decide_eq_false (by omega)]; rfl, HB.out⟩
            · have hmb : modB mode = false := by unfold modB; simp; omega
              rw [hmb] at hMd
              go_wp2_with fail
              refine hMd.mono ?_
              rintro e w9 ⟨rfl, rfl⟩
              go_wp2
              go_ret
              exact ⟨rfl, HB.out⟩

end Go.Proofs.YtfniepccldkahaaDoor
