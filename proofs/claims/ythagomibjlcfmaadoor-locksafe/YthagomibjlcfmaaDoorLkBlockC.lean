/-
  Numbers in rows of their own; the walk of queue.blockers.
-/
import Derived.Test.YthagomibjlcfmaaDoorLkOneC
namespace Go.Proofs.YthagomibjlcfmaaDoor
open Go.RowKit
set_option linter.unusedVariables false
set_option linter.unusedSimpArgs false

/-- The value v is a list of numbers, a row of its own from block B on. -/
def IntsAt (B : Nat) (w : World) (v : Value) (zs : List Int) : Prop := w.ownsRow B 3 1 v zs.length (zs.map (Value.int .i64))

theorem IntsAt.nil (B : Nat) (w : World) : IntsAt B w (.slice none 0 0) [] := ⟨rfl, .inl ⟨rfl, rfl⟩⟩

theorem IntsAt.same {B : Nat} {w w' : World} {v : Value} {L : List Int} (h : IntsAt B w v L) (k : ∀ g, v.ownBlock = some g → w'.heap[g]? = w.heap[g]?) : IntsAt B w' v L := by
  refine ⟨h.1, ?_⟩
  rcases h.2 with ⟨rfl, h1⟩ | ⟨g', cap, cur, rfl, h0, hb, hr⟩
  · exact .inl ⟨rfl, h1⟩
  · exact .inr ⟨g', cap, cur, rfl, h0, (k g' rfl).trans hb, hr⟩

theorem IntsAt.lt {B : Nat} {w : World} {v : Value} {L : List Int} (h : IntsAt B w v L) : ∀ g, v.ownBlock = some g → B ≤ g ∧ g < w.heap.size := fun g hg => World.ownsRow.lt h g hg

theorem IntsAt.below {B : Nat} {w w' : World} {v : Value} {L : List Int} (h : IntsAt B w v L) (k : Below w.heap.size w w') : IntsAt B w' v L := h.same fun g hg => k.block g (h.lt g hg).2

theorem IntsAt.val {B : Nat} {w : World} {v : Value} {L : List Int} (h : IntsAt B w v L) : ∃ a c, v = .slice a L.length c := by
  rcases h.2 with ⟨rfl, h1⟩ | ⟨g', cap, cur, rfl, h0, hb, hr⟩
  · exact ⟨_, _, by rw [h1]⟩
  · exact ⟨_, _, rfl⟩

/-- Numbers, rising. -/
def sortI (l : List Int) : List Int := l.mergeSort fun x y => decide (x ≤ y)

theorem sortI_len (l : List Int) : (sortI l).length = l.length := List.length_mergeSort l

/-- slices.Sort sorts up to n numbers. -/
def Sorts (n : Nat) : Prop := ∀ (B : Nat) (zs : List Int) (w : World) (v : Value), zs.length ≤ n → IntsAt B w v zs →
  Calls Tryd.prog 30 #[v] w fun e w' => e = .returned (.tuple #[]) ∧ IntsAt B w' v (sortI zs) ∧ w.grownBy w' v.ownBlock

theorem infoInt : (Tryd.prog.info? 3).map (fun i => (i.zero, i.size, i.bytes)) = some (some (.int .i64 0), 1, 8) := by kernel_rfl

/-- Does one that stands at i block one that stands (or would stand) at a, and wants m? -/
def blkB (a : Nat) (m : Int) (i : Nat) (o : Pl) : Bool :=
  !decide (i = a) && ((!decide (o.2.1 = 0) && !(modB o.2.1 && modB m && togB o.2.1 m)) || (!decide (o.2.2.1 = 0) && decide (i < a)))

/-- Those of the first k that block it. -/
def blkTo (L : List Pl) (a : Nat) (m : Int) : Nat → List Int
  | 0 => []
  | k + 1 => blkTo L a m k ++ (match L[k]? with | some o => if blkB a m k o then [o.1] else [] | none => [])

theorem blkTo_len (L : List Pl) (a : Nat) (m : Int) (k : Nat) : (blkTo L a m k).length ≤ k := by
  induction k with
  | zero => exact Nat.le_refl _
  | succ k ih =>
    unfold blkTo
    rw [List.length_append]
    cases L[k]? with
    | none => simp; omega
    | some o =>
      by_cases h : blkB a m k o = true
      · simp [h]; omega
      · simp [h]; omega

/-- Those that block one who wants a mode there. -/
def blkF (L : List Pl) (p : Pl) : List Int := blkTo L (ofF L p.1) p.2.2.1 L.length

/-- Where blockers' loop stands. -/
structure BlkAt (B : Nat) (w wr : World) (pb : Nat) (p : Pl) (v : Value) (zs : List Int) : Prop where
  bel : Below w.heap.size w wr
  lt : pb < wr.heap.size
  pl : PlAt wr pb 0 p
  blk : ∃ cs, wr.heap[pb]? = some (.cells cs 64)
  own : IntsAt B wr v zs

theorem BlkAt.below {B : Nat} {w wr wx : World} {pb : Nat} {p : Pl} {v : Value} {zs : List Int} (h : BlkAt B w wr pb p v zs) (k : Below wr.heap.size wr wx) : BlkAt B w wx pb p v zs :=
  ⟨h.bel.trans (k.mono h.bel.size), Nat.lt_of_lt_of_le h.lt k.size, h.pl.same (k.block pb h.lt), (by obtain ⟨cs, hb⟩ := h.blk; exact ⟨cs, (k.block pb h.lt).trans hb⟩), h.own.below k⟩

theorem ints_not_place {B : Nat} {w : World} {v : Value} {zs : List Int} {pb : Nat} {cs : Array Value} (h : IntsAt B w v zs) (hp : w.heap[pb]? = some (.cells cs 64)) : v.ownBlock ≠ some pb := by
  intro e
  rcases h.2 with ⟨rfl, _⟩ | ⟨g, cap, cur, rfl, _, hb, _⟩
  · cases e
  · obtain rfl : g = pb := Option.some.inj e
    rw [hp] at hb
    cases hb

theorem BlkAt.pushed {B : Nat} {w wr wx : World} {pb : Nat} {p : Pl} {v v' : Value} {zs : List Int} {x : Int} {o : Obj} (h : BlkAt B w wr pb p v zs) (ho : (wr.alloc o).ownsRow B 3 1 v zs.length (zs.map (Value.int .i64))) (hown : wx.ownsRow B 3 1 v' (zs.length + 1) (zs.map (Value.int .i64) ++ [.int .i64 x])) (hg : (wr.alloc o).grownBy wx v.ownBlock) (hB : w.heap.size ≤ B := by omega) :
    BlkAt B w wx pb p v' (zs ++ [x]) := by
  have b1 : Below wr.heap.size wr (wr.alloc o) := (Below.refl _ _).alloc (Nat.le_refl _) _
  have hx := h.below b1
  have hpb : v.ownBlock ≠ some pb := by obtain ⟨cs, hb⟩ := hx.blk; exact ints_not_place hx.own hb
  have e : wx.heap[pb]? = (wr.alloc o).heap[pb]? := hg.block pb hx.lt (fun e => hpb e.symm)
  refine ⟨hx.bel.grown hg hx.bel.size fun k hk => Nat.le_trans hB (ho.lt k hk).1, Nat.lt_of_lt_of_le hx.lt hg.size, hx.pl.same e, (by obtain ⟨cs, hb⟩ := hx.blk; exact ⟨cs, e.trans hb⟩), ?_⟩
  unfold IntsAt
  rw [List.length_append, List.map_append]
  exact hown

set_option maxHeartbeats 3200000 in
set_option maxRecDepth 60000 in
theorem blockers_any {w : World} {v : Value} {L : List Pl} (hl : LkLaid w) (h : QAt w v L) (p : Pl) (hL : L.length ≤ 1000000) (hS : Sorts L.length) :
    Calls Tryd.prog 27 #[v, pval p] w fun e w' => ∃ v', e = .returned v' ∧ IntsAt w.heap.size w' v' (sortI (blkF L p)) ∧ Below w.heap.size w w' := by
  have HO : Hid (∀ wx, Below w.heap.size w wx → Calls Tryd.prog 45 #[v, .int .i64 p.1] wx fun e w' => e = .returned (.int .i64 (ofF L p.1)) ∧ Below wx.heap.size wx w') := fun wx k => of_any (h.below k) p.1
  have HC : Hid (∀ a b : Int, ∀ wx, Below w.heap.size w wx → Calls Tryd.prog 15 #[.int .i64 a, .int .i64 b] wx fun e w' => e = .returned (.bool (modB a && modB b && togB a b)) ∧ w' = wx) := fun a b wx k => compat_any a b wx (hl.below hl.lt k)
  unfold blkF
  have HS : Hid (Sorts L.length) := hS
  obtain ⟨i0, hi, hzz⟩ := Option.map_eq_some_iff.1 infoInt
  simp only [Prod.mk.injEq] at hzz
  obtain ⟨hz0, hz1, hz2⟩ := hzz
  have HLE := ofF_le L p.1
  generalize ofF L p.1 = a at *
  obtain ⟨p0, p1, p2, p3⟩ := p
  unfold pval
  simp only at *
  have HQ := h.open
  obtain ⟨va, vc, rfl⟩ : ∃ va vc, v = .slice va L.length vc := by
    rcases HQ with ⟨rfl, rfl⟩ | ⟨g, cap, rfl, _⟩
    · exact ⟨_, _, rfl⟩
    · exact ⟨_, _, rfl⟩
  have HP : Hid (∀ i (hi : i < L.length), ∃ g, va = some ⟨g, 0, none⟩ ∧ g < w.heap.size ∧ PlAt w g (i * 4) L[i]) := fun i hi => by
    rcases HQ with ⟨e1, rfl⟩ | ⟨g, cap, e1, hg, _, _, hp⟩
    · simp at hi
    · cases e1
      exact ⟨g, rfl, hg, hp i hi⟩
  clear HQ h hS hl
  have W1 : Below w.heap.size w (w.alloc (.cells #[.int .i64 p0, .int .i64 p1, .int .i64 p2, .bool p3] 64)) := (Below.refl _ _).alloc (Nat.le_refl _) _
  go_enter Tryd.func27, Tryd.ntmps27
  go_wp2_with fail
  refine (HO.out _ W1).mono ?_
  rintro e w1 ⟨rfl, b1⟩
  have b2 := W1.trans (b1.mono (by simp))
  have hp1 : PlAt (w.alloc (.cells #[.int .i64 p0, .int .i64 p1, .int .i64 p2, .bool p3] 64)) w.heap.size 0 (p0, p1, p2, p3) := ⟨by simp, by simp, by simp, by simp⟩
  have HA0 : Hid (BlkAt w.heap.size w w1 w.heap.size (p0, p1, p2, p3) (.slice none 0 0) (blkTo L a p2 0)) := ⟨b2, Nat.lt_of_lt_of_le (by simp) b1.size, hp1.same (b1.block _ (by simp)), ⟨_, (b1.block _ (by simp)).trans (heap_alloc_new _ _)⟩, IntsAt.nil _ _⟩
  clear b1 b2 hp1 W1 HO
  go_wp2_with fail
  go_loopw [17, 6] (fun i t wr => ∃ k : Nat, k ≤ L.length ∧ i = .int .i64 k ∧ Hid (BlkAt w.heap.size w wr w.heap.size (p0, p1, p2, p3) t (blkTo L a p2 k))) (fun i _ _ => L.length - (intOf i).toNat)
  case atStart => exact ⟨0, by omega, rfl, HA0⟩
  case round =>
    obtain ⟨k, hk, rfl, HA⟩ := hrel
    clear HA0
    by_cases hlt : k < L.length
    · obtain ⟨g, rfl, hg, hP0⟩ := HP.out k hlt
      have hP := hP0.same (HA.out.bel.block g hg)
      clear hP0
      have HB : Hid (blkTo L a p2 (k + 1) = blkTo L a p2 k ++ (if blkB a p2 k L[k] then [L[k].1] else [])) := by
        show _ ++ _ = _
        rw [List.getElem?_eq_getElem hlt]
      have HLN : Hid ((blkTo L a p2 k).length ≤ k) := blkTo_len _ _ _ _
      have hi0 : (0 : Int) ≤ k := by omega
      have hi1 : (k : Int) < L.length := by omega
      clear HP
      obtain ⟨Z, HZ0⟩ : ∃ Z, Hid (blkTo L a p2 k = Z) := ⟨_, rfl⟩
      rw [HZ0.out] at HA HB HLN
      clear HZ0
      generalize L[k] = t at *
      generalize L.length = N at *
      obtain ⟨t0, t1, t2, t3⟩ := t
      unfold blkB at HB
      simp only at HB
      obtain ⟨c0, c1, c2, c3⟩ := hP
      simp only at c0 c1 c2 c3
      have bel := HA.out.bel
      obtain ⟨q0, q1, q2, q3⟩ := HA.out.pl
      simp only [Nat.zero_add] at q0 q1 q2 q3
      have hw := HA.out.lt
      by_cases ea : k = a
      · subst ea
        have HZ : Hid (blkTo L k p2 (k + 1) = Z) := by show _ = _; have := HB.out; simpa using this
        have HA2 : Hid (BlkAt w.heap.size w (wr.alloc (.cells #[.int .i64 t0, .int .i64 t1, .int .i64 t2, .bool t3] 64)) w.heap.size (p0, p1, p2, p3) u6 Z) := HA.out.below ((Below.refl _ _).alloc (Nat.le_refl _) _)
        go_wp2
        go_roundw
        case rel => exact ⟨k + 1, by omega, by go_num, by rw [HZ.out]; exact HA2⟩
        case measure => simp [intOf]; omega
      · have ea' : ((k : Int) == (a : Int)) = false := by rw [beq_eq_false_iff_ne]; omega
        have HAx : Hid (BlkAt w.heap.size w (wr.alloc (.cells #[.int .i64 t0, .int .i64 t1, .int .i64 t2, .bool t3] 64)) w.heap.size (p0, p1, p2, p3) u6 Z) := HA.out.below ((Below.refl _ _).alloc (Nat.le_refl _) _)
        have belx := HAx.out.bel
        have hwx : wr.heap.size < (wr.alloc (.cells #[.int .i64 t0, .int .i64 t1, .int .i64 t2, .bool t3] 64)).heap.size := by simp
        by_cases e1 : t1 = 0
        · have e1' : (t1 != 0) = false := by simpa using e1
          by_cases e2 : t2 = 0
          · have e2' : (t2 != 0) = false := by simpa using e2
            have HZ : Hid (blkTo L a p2 (k + 1) = Z) := by show _ = _; rw [HB.out]; simp [e2, e1, ea]
            clear e1 e2
            go_wp2
            go_roundw
            case rel => exact ⟨k + 1, by omega, by go_num, by rw [HZ.out]; exact HAx⟩
            case measure => simp [intOf]; omega
          · have e2' : (t2 != 0) = true := by simpa using e2
            by_cases e3 : k < a
            · have e3' : (k : Int) < (a : Int) := by omega
              have HZ : Hid (blkTo L a p2 (k + 1) = Z ++ [t0]) := by show _ = _; rw [HB.out]; simp [e1, ea, e2, e3]
              clear e1
              have hown : ((wr.alloc (.cells #[.int .i64 t0, .int .i64 t1, .int .i64 t2, .bool t3] 64)).alloc (.cells #[.int .i64 t0] 3)).ownsRow w.heap.size 3 1 u6 Z.length (Z.map (Value.int .i64)) := (HAx.out.own.below ((Below.refl _ _).alloc (Nat.le_refl _) _))
              go_wp2_with (at_builtin; refine wpList_append_own_at _ rfl _ _ 38 rfl w.heap.size 3 i0 (.int .i64 0) 1 8 Tryd.underlying38 hi hz0 hz1 hz2 rfl (by decide) u6 Z.length (Z.map (Value.int .i64)) rfl hown ⟨wr.heap.size + 1, 0, none⟩ 1 1 [.int .i64 t0] rfl rfl (by intro j u hj; match j, hj with | 0, hj => (simp at hj; subst hj; simp [Addr.add])) (by intro u hu; simp at hu; subst hu; rfl) (by unfold maxLen; have := HLN.out; omega) (by have := HLN.out; omega) (by simp; have := bel.size; omega) ?_; intro v' w4 hown4 hgrow4 hnil4 hloc4)
              have HA4 : Hid (BlkAt w.heap.size w w4 w.heap.size (p0, p1, p2, p3) v' (Z ++ [t0])) := HAx.out.pushed hown hown4 hgrow4
              clear hown4 hgrow4 hnil4 hloc4 hown
              go_wp2
              go_roundw
              case rel => exact ⟨k + 1, by omega, by go_num, by rw [HZ.out]; exact HA4⟩
              case measure => simp [intOf]; omega
            · have e3' : ¬ ((k : Int) < (a : Int)) := by omega
              have HZ : Hid (blkTo L a p2 (k + 1) = Z) := by show _ = _; rw [HB.out]; simp [e1, ea, e2, e3]
              clear e1
              go_wp2
              go_roundw
              case rel => exact ⟨k + 1, by omega, by go_num, by rw [HZ.out]; exact HAx⟩
              case measure => simp [intOf]; omega
        · have e1' : (t1 != 0) = true := by simpa using e1
          cases cb : (modB t1 && modB p2 && togB t1 p2) with
          | true =>
            by_cases e2 : t2 = 0
            · have e2' : (t2 != 0) = false := by simpa using e2
              have HZ : Hid (blkTo L a p2 (k + 1) = Z) := by show _ = _; rw [HB.out]; simp [e2, ea, e1, cb]
              clear e2
              go_wp2_with fail
              refine (HC.out t1 p2 _ belx).mono ?_
              rintro e w3 ⟨rfl, rfl⟩
              rw [cb]
              go_wp2
              go_roundw
              case rel => exact ⟨k + 1, by omega, by go_num, by rw [HZ.out]; exact HAx⟩
              case measure => simp [intOf]; omega
            · have e2' : (t2 != 0) = true := by simpa using e2
              by_cases e3 : k < a
              · have e3' : (k : Int) < (a : Int) := by omega
                have HZ : Hid (blkTo L a p2 (k + 1) = Z ++ [t0]) := by show _ = _; rw [HB.out]; simp [ea, e2, e3, e1, cb]
                go_wp2_with fail
                refine (HC.out t1 p2 _ belx).mono ?_
                rintro e w3 ⟨rfl, rfl⟩
                rw [cb]
                have hown : ((wr.alloc (.cells #[.int .i64 t0, .int .i64 t1, .int .i64 t2, .bool t3] 64)).alloc (.cells #[.int .i64 t0] 3)).ownsRow w.heap.size 3 1 u6 Z.length (Z.map (Value.int .i64)) := (HAx.out.own.below ((Below.refl _ _).alloc (Nat.le_refl _) _))
                go_wp2_with (at_builtin; refine wpList_append_own_at _ rfl _ _ 38 rfl w.heap.size 3 i0 (.int .i64 0) 1 8 Tryd.underlying38 hi hz0 hz1 hz2 rfl (by decide) u6 Z.length (Z.map (Value.int .i64)) rfl hown ⟨wr.heap.size + 1, 0, none⟩ 1 1 [.int .i64 t0] rfl rfl (by intro j u hj; match j, hj with | 0, hj => (simp at hj; subst hj; simp [Addr.add])) (by intro u hu; simp at hu; subst hu; rfl) (by unfold maxLen; have := HLN.out; omega) (by have := HLN.out; omega) (by simp; have := bel.size; omega) ?_; intro v' w4 hown4 hgrow4 hnil4 hloc4)
                have HA4 : Hid (BlkAt w.heap.size w w4 w.heap.size (p0, p1, p2, p3) v' (Z ++ [t0])) := HAx.out.pushed hown hown4 hgrow4
                clear hown4 hgrow4 hnil4 hloc4 hown
                go_wp2
                go_roundw
                case rel => exact ⟨k + 1, by omega, by go_num, by rw [HZ.out]; exact HA4⟩
                case measure => simp [intOf]; omega
              · have e3' : ¬ ((k : Int) < (a : Int)) := by omega
                have HZ : Hid (blkTo L a p2 (k + 1) = Z) := by show _ = _; rw [HB.out]; simp [ea, e2, e3, e1, cb]
                go_wp2_with fail
                refine (HC.out t1 p2 _ belx).mono ?_
                rintro e w3 ⟨rfl, rfl⟩
                rw [cb]
                go_wp2
                go_roundw
                case rel => exact ⟨k + 1, by omega, by go_num, by rw [HZ.out]; exact HAx⟩
                case measure => simp [intOf]; omega
          | false =>
            by_cases e2 : t2 = 0
            · have e2' : (t2 != 0) = false := by simpa using e2
              have HZ : Hid (blkTo L a p2 (k + 1) = Z ++ [t0]) := by show _ = _; rw [HB.out]; simp [e2, ea, e1, cb]
              clear e2
              go_wp2_with fail
              refine (HC.out t1 p2 _ belx).mono ?_
              rintro e w3 ⟨rfl, rfl⟩
              rw [cb]
              have hown : ((wr.alloc (.cells #[.int .i64 t0, .int .i64 t1, .int .i64 t2, .bool t3] 64)).alloc (.cells #[.int .i64 t0] 3)).ownsRow w.heap.size 3 1 u6 Z.length (Z.map (Value.int .i64)) := (HAx.out.own.below ((Below.refl _ _).alloc (Nat.le_refl _) _))
              go_wp2_with (at_builtin; refine wpList_append_own_at _ rfl _ _ 38 rfl w.heap.size 3 i0 (.int .i64 0) 1 8 Tryd.underlying38 hi hz0 hz1 hz2 rfl (by decide) u6 Z.length (Z.map (Value.int .i64)) rfl hown ⟨wr.heap.size + 1, 0, none⟩ 1 1 [.int .i64 t0] rfl rfl (by intro j u hj; match j, hj with | 0, hj => (simp at hj; subst hj; simp [Addr.add])) (by intro u hu; simp at hu; subst hu; rfl) (by unfold maxLen; have := HLN.out; omega) (by have := HLN.out; omega) (by simp; have := bel.size; omega) ?_; intro v' w4 hown4 hgrow4 hnil4 hloc4)
              have HA4 : Hid (BlkAt w.heap.size w w4 w.heap.size (p0, p1, p2, p3) v' (Z ++ [t0])) := HAx.out.pushed hown hown4 hgrow4
              clear hown4 hgrow4 hnil4 hloc4 hown
              go_wp2
              go_roundw
              case rel => exact ⟨k + 1, by omega, by go_num, by rw [HZ.out]; exact HA4⟩
              case measure => simp [intOf]; omega
            · have e2' : (t2 != 0) = true := by simpa using e2
              by_cases e3 : k < a
              · have e3' : (k : Int) < (a : Int) := by omega
                have HZ : Hid (blkTo L a p2 (k + 1) = Z ++ [t0]) := by show _ = _; rw [HB.out]; simp [ea, e2, e3, e1, cb]
                go_wp2_with fail
                refine (HC.out t1 p2 _ belx).mono ?_
                rintro e w3 ⟨rfl, rfl⟩
                rw [cb]
                have hown : ((wr.alloc (.cells #[.int .i64 t0, .int .i64 t1, .int .i64 t2, .bool t3] 64)).alloc (.cells #[.int .i64 t0] 3)).ownsRow w.heap.size 3 1 u6 Z.length (Z.map (Value.int .i64)) := (HAx.out.own.below ((Below.refl _ _).alloc (Nat.le_refl _) _))
                go_wp2_with (at_builtin; refine wpList_append_own_at _ rfl _ _ 38 rfl w.heap.size 3 i0 (.int .i64 0) 1 8 Tryd.underlying38 hi hz0 hz1 hz2 rfl (by decide) u6 Z.length (Z.map (Value.int .i64)) rfl hown ⟨wr.heap.size + 1, 0, none⟩ 1 1 [.int .i64 t0] rfl rfl (by intro j u hj; match j, hj with | 0, hj => (simp at hj; subst hj; simp [Addr.add])) (by intro u hu; simp at hu; subst hu; rfl) (by unfold maxLen; have := HLN.out; omega) (by have := HLN.out; omega) (by simp; have := bel.size; omega) ?_; intro v' w4 hown4 hgrow4 hnil4 hloc4)
                have HA4 : Hid (BlkAt w.heap.size w w4 w.heap.size (p0, p1, p2, p3) v' (Z ++ [t0])) := HAx.out.pushed hown hown4 hgrow4
                clear hown4 hgrow4 hnil4 hloc4 hown
                go_wp2
                go_roundw
                case rel => exact ⟨k + 1, by omega, by go_num, by rw [HZ.out]; exact HA4⟩
                case measure => simp [intOf]; omega
              · have e3' : ¬ ((k : Int) < (a : Int)) := by omega
                have HZ : Hid (blkTo L a p2 (k + 1) = Z ++ [t0]) := by show _ = _; rw [HB.out]; simp [ea, e1, cb]
                go_wp2_with fail
                refine (HC.out t1 p2 _ belx).mono ?_
                rintro e w3 ⟨rfl, rfl⟩
                rw [cb]
                have hown : ((wr.alloc (.cells #[.int .i64 t0, .int .i64 t1, .int .i64 t2, .bool t3] 64)).alloc (.cells #[.int .i64 t0] 3)).ownsRow w.heap.size 3 1 u6 Z.length (Z.map (Value.int .i64)) := (HAx.out.own.below ((Below.refl _ _).alloc (Nat.le_refl _) _))
                go_wp2_with (at_builtin; refine wpList_append_own_at _ rfl _ _ 38 rfl w.heap.size 3 i0 (.int .i64 0) 1 8 Tryd.underlying38 hi hz0 hz1 hz2 rfl (by decide) u6 Z.length (Z.map (Value.int .i64)) rfl hown ⟨wr.heap.size + 1, 0, none⟩ 1 1 [.int .i64 t0] rfl rfl (by intro j u hj; match j, hj with | 0, hj => (simp at hj; subst hj; simp [Addr.add])) (by intro u hu; simp at hu; subst hu; rfl) (by unfold maxLen; have := HLN.out; omega) (by have := HLN.out; omega) (by simp; have := bel.size; omega) ?_; intro v' w4 hown4 hgrow4 hnil4 hloc4)
                have HA4 : Hid (BlkAt w.heap.size w w4 w.heap.size (p0, p1, p2, p3) v' (Z ++ [t0])) := HAx.out.pushed hown hown4 hgrow4
                clear hown4 hgrow4 hnil4 hloc4 hown
                go_wp2
                go_roundw
                case rel => exact ⟨k + 1, by omega, by go_num, by rw [HZ.out]; exact HA4⟩
                case measure => simp [intOf]; omega
    · obtain rfl : k = L.length := by omega
      have HLN : Hid ((blkTo L a p2 L.length).length ≤ L.length) := blkTo_len _ _ _ _
      have HSo := HS.out w.heap.size _ wr u6 HLN.out HA.out.own
      have bel := HA.out.bel
      have hlt' := HA.out.own.lt
      clear HP HA HC
      go_wp2_with fail
      refine HSo.mono ?_
      rintro e w3 ⟨rfl, ho, hg⟩
      go_wp2
      go_ret
      exact ⟨u6, rfl, ho, bel.grown hg bel.size fun k hk => (hlt' k hk).1⟩

end Go.Proofs.YthagomibjlcfmaaDoor
