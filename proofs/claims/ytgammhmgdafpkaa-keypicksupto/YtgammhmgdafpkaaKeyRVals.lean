/-
  The walk of girderref11.Values.
-/
import Derived.Test.YtgammhmgdafpkaaKeyRRow
import Derived.Test.YtgammhmgdafpkaaKeyRef
import Derived.Test.YtgammhmgdafpkaaRefReader
import Derived.Deep.CutRange
import Derived.Deep.CutBlock
namespace Go.Proofs.Ytgammhmgdafpkaa
open Go.RowKit Go.Sort
set_option linter.unusedVariables false
set_option linter.unusedSimpArgs false

theorem kowns_same {B : Nat} {w w' : World} {e : TypeId} {z n : Nat} {v : Value} {xs : List Value} (h : w.ownsRow B e z v n xs) (k : ∀ g, v.ownBlock = some g → w'.heap[g]? = w.heap[g]?) : w'.ownsRow B e z v n xs := by
  refine ⟨h.1, ?_⟩
  rcases h.2 with ⟨rfl, h1⟩ | ⟨g', cap, cur, rfl, h0, hb, hr⟩
  · exact .inl ⟨rfl, h1⟩
  · exact .inr ⟨g', cap, cur, rfl, h0, (k g' rfl).trans hb, hr⟩

/-- Where the document's Values stands. -/
structure RvAt (w wx : World) (s : ByteArray) (p : Nat) (e : Int) (v : Value) (L : List ValV) : Prop where
  bel : Below w.heap.size w wx
  rd : Row3 wx w.heap.size (.string s) (.int .i64 p) (.int .i64 e)
  sz : w.heap.size < wx.heap.size
  own : wx.ownsRow (w.heap.size + 1) 62 3 v L.length (L.flatMap ValV.cells)

theorem RvAt.call {w wx wy : World} {s : ByteArray} {p : Nat} {e : Int} {v : Value} {L : List ValV} (h : RvAt w wx s p e v L) (b : Below wx.heap.size wx wy) : RvAt w wy s p e v L :=
  ⟨below_chain h.bel b, h.rd.below b h.sz, Nat.lt_of_lt_of_le h.sz b.size, kowns_same h.own fun g hg => b.block g (World.ownsRow.lt h.own g hg).2⟩

theorem RvAt.read {w wx : World} {s : ByteArray} {p : Nat} {e : Int} {v : Value} {L : List ValV} (h : RvAt w wx s p e v L) (p' : Nat) (e' : Int) :
    RvAt w (((wx.setCell ⟨w.heap.size, 0, none⟩ (.string s)).setCell ⟨w.heap.size, 1, none⟩ (.int .i64 p')).setCell ⟨w.heap.size, 2, none⟩ (.int .i64 e')) s p' e' v L := by
  have st : ∀ k, k ≠ w.heap.size → (((wx.setCell ⟨w.heap.size, 0, none⟩ (.string s)).setCell ⟨w.heap.size, 1, none⟩ (.int .i64 p')).setCell ⟨w.heap.size, 2, none⟩ (.int .i64 e')).heap[k]? = wx.heap[k]? := fun k hk => (Below.heap_setCell _ _ _ _ hk).trans ((Below.heap_setCell _ _ _ _ hk).trans (Below.heap_setCell _ _ _ _ hk))
  exact ⟨below_set3 h.bel (Nat.le_refl _) _ _ _, h.rd.set _ _ _, by simpa using h.sz, kowns_same h.own fun g hg => st g (by have := (World.ownsRow.lt h.own g hg).1; omega)⟩

theorem RvAt.beside {w wx : World} {s : ByteArray} {p : Nat} {e : Int} {v : Value} {L : List ValV} (h : RvAt w wx s p e v L) {b : Nat} (hb : w.heap.size < b) (hg : ∀ g, v.ownBlock = some g → g < b) (i : Nat) (x : Value) : RvAt w (wx.setCell ⟨b, i, none⟩ x) s p e v L :=
  ⟨h.bel.setCell (p := ⟨b, i, none⟩) (by show w.heap.size ≤ b; omega) _, h.rd.setFar (by omega) _ _, by simpa using h.sz, kowns_same h.own fun g k => Below.heap_setCell _ _ _ _ (by have := hg g k; show g ≠ b; omega)⟩

theorem Row3.put1 {W : World} {b : Nat} {v0 v1 v2 : Value} (h : Row3 W b v0 v1 v2) (u : Value) : Row3 (W.setCell ⟨b, 1, none⟩ u) b v0 u v2 :=
  ⟨by rw [World.cell?_setCell_other _ _ _ _ (by simp)]; exact h.c0, World.cell?_setCell_same _ _ _ h.c1, by rw [World.cell?_setCell_other _ _ _ _ (by simp)]; exact h.c2, by rw [World.frozen?_setCell]; exact h.f0, by rw [World.frozen?_setCell]; exact h.f1, by rw [World.frozen?_setCell]; exact h.f2⟩

theorem Row3.put2 {W : World} {b : Nat} {v0 v1 v2 : Value} (h : Row3 W b v0 v1 v2) (u : Value) : Row3 (W.setCell ⟨b, 2, none⟩ u) b v0 v1 u :=
  ⟨by rw [World.cell?_setCell_other _ _ _ _ (by simp)]; exact h.c0, by rw [World.cell?_setCell_other _ _ _ _ (by simp)]; exact h.c1, World.cell?_setCell_same _ _ _ h.c2, by rw [World.frozen?_setCell]; exact h.f0, by rw [World.frozen?_setCell]; exact h.f1, by rw [World.frozen?_setCell]; exact h.f2⟩

theorem Row3.far3 {W : World} {b c : Nat} {v0 v1 v2 : Value} (h : Row3 W b v0 v1 v2) (hc : c ≠ b) (u0 u1 u2 : Value) : Row3 (((W.setCell ⟨c, 0, none⟩ u0).setCell ⟨c, 1, none⟩ u1).setCell ⟨c, 2, none⟩ u2) b v0 v1 v2 :=
  ((h.setFar hc 0 u0).setFar hc 1 u1).setFar hc 2 u2

theorem RvAt.push {w wx wa w7 : World} {s : ByteArray} {p : Nat} {e : Int} {v v' : Value} {L : List ValV} (h : RvAt w wx s p e v L) {t : ValV} (k1 : Below wx.heap.size wx wa) (o1 : w7.ownsRow (w.heap.size + 1) 62 3 v' (L.length + 1) (L.flatMap ValV.cells ++ t.cells)) (g1 : wa.grownBy w7 v.ownBlock) : RvAt w w7 s p e v' (L ++ [t]) := by
  have hne : ∀ b, b ≤ w.heap.size → some b ≠ v.ownBlock := fun b hb e => by have := (World.ownsRow.lt h.own b e.symm).1; omega
  have hsz := h.sz
  have hk := k1.size
  have hblk : w7.heap[w.heap.size]? = wx.heap[w.heap.size]? := (g1.block _ (by omega) (hne _ (Nat.le_refl _))).trans (k1.block _ hsz)
  refine ⟨(below_chain h.bel k1).grown g1 (by have := h.bel.size; omega) (fun z hz => by have := (World.ownsRow.lt h.own z hz).1; omega), ?_, by have := g1.size; omega, ?_⟩
  · obtain ⟨c0, c1, c2, f0, f1, f2⟩ := h.rd
    exact ⟨(World.cell?_of_block (w := wx) (a := ⟨w.heap.size, 0, none⟩) hblk).trans c0, (World.cell?_of_block (w := wx) (a := ⟨w.heap.size, 1, none⟩) hblk).trans c1, (World.cell?_of_block (w := wx) (a := ⟨w.heap.size, 2, none⟩) hblk).trans c2,
      (World.frozen?_of_block (w := wx) (a := ⟨w.heap.size, 0, none⟩) hblk).trans f0, (World.frozen?_of_block (w := wx) (a := ⟨w.heap.size, 1, none⟩) hblk).trans f1, (World.frozen?_of_block (w := wx) (a := ⟨w.heap.size, 2, none⟩) hblk).trans f2⟩
  · rw [List.length_append, List.flatMap_append]
    simpa using o1

theorem kowns_val {B : Nat} {w : World} {e : TypeId} {z n : Nat} {v : Value} {xs : List Value} (h : w.ownsRow B e z v n xs) : ∃ a m c, v = .slice a m c := by
  rcases h.2 with ⟨e1, _⟩ | ⟨g', cap, cur, e1, _⟩
  · exact ⟨_, _, _, e1⟩
  · exact ⟨_, _, _, e1⟩

theorem knumF_place {s : ByteArray} {p : Nat} {e : Int} (n : Int) (h : p ≤ s.size) : (numF s p e n).1 ≤ s.size := by
  unfold numF
  repeat' split
  all_goals (simp only; omega)

theorem kbytesF_place {s : ByteArray} {p : Nat} {e : Int} (n : Int) (h : p ≤ s.size) : (bytesF s p e n).1 ≤ s.size := by
  unfold bytesF
  repeat' split
  all_goals (simp only; omega)

set_option maxHeartbeats 3200000 in
theorem rvalues_any (s : ByteArray) (w : World) (hs : s.size ≤ 140737488351232) :
    Calls Try.prog 9 #[.string s] w fun x w' =>
      ∃ a c, x = .returned (.tuple #[.slice a (valsL s).length c, .int .i64 (valsE s)]) ∧ Hid (ValsAt w' a (valsL s)) ∧ Below w.heap.size w w' := by
  obtain ⟨i0, hi, hz0, hz1, hz2⟩ := info_parts infoRV
  have HR : Hid (readV s = takesK s (numF s 0 0 1).1 (numF s 0 0 1).2.1 (numF s 0 0 1).2.2) := rfl
  obtain ⟨⟨p0, e0, n⟩, HN0⟩ : ∃ X, Hid (numF s 0 0 1 = X) := ⟨_, rfl⟩
  have hn := knumF_lt s 0 0 1
  have hp0 := knumF_place (s := s) (p := 0) (e := 0) 1 (Nat.zero_le _)
  rw [show (((1 : Nat) : Int)) = 1 from rfl] at hn
  rw [HN0.out] at hn HR hp0
  simp only at hn HR hp0
  have hn' : n < 256 := hn
  clear hn
  have HN : Hid (∀ w1, Calls Try.prog 29 #[.agg #[.string s, .int .i64 0, .int .i64 0], .int .i64 1] w1 fun x w' => x = .returned (.tuple #[.agg #[.string s, .int .i64 p0, .int .i64 e0], .int .u64 (n : Nat)]) ∧ Below w1.heap.size w1 w') := fun w1 => by
    have := xnumber_any (s := s) (p := 0) (e := 0) (w := w1) hs (Nat.zero_le _) 1 (by omega)
    rw [HN0.out] at this
    exact this
  clear HN0
  obtain ⟨E, HE⟩ : ∃ E, Hid (valsE s = E) := ⟨_, rfl⟩
  obtain ⟨M, HM⟩ : ∃ M, Hid (valsL s = M) := ⟨_, rfl⟩
  rw [HE.out, HM.out]
  go_enter Try.func9, Try.ntmps9
  go_upto_region 3 with fail
  obtain ⟨W, HW⟩ : ∃ W, Hid (W = (w.alloc (.cells #[.string s, .int .i64 0, .int .i64 0] 69)).alloc (.cells #[] 62)) := ⟨_, rfl⟩
  have HS0 : Hid (RvAt w W s 0 0 (.slice (some ⟨w.heap.size + 1, 0, none⟩) 0 0) []) := by
    show RvAt _ _ _ _ _ _ _
    rw [HW.out]
    have bb : Below w.heap.size w ((w.alloc (.cells #[.string s, .int .i64 0, .int .i64 0] 69)).alloc (.cells #[] 62)) := ((Below.refl _ _).alloc (Nat.le_refl _) _).alloc (by simp) _
    refine ⟨bb, (Row3.new w _ _ _ _).below (B := w.heap.size + 1) ((Below.refl _ _).alloc (by simp) _) (by omega), by simp; omega, ?_⟩
    have := World.ownsRow_lit (base := w.heap.size + 1) (e := 62) (size := 3) (w.alloc (.cells #[.string s, .int .i64 0, .int .i64 0] 69)) #[] 0 (by simp) (by unfold maxLen; omega) rfl
    simpa using this
  rw [← HW.out]
  clear HW
  obtain ⟨x0, x1, x2, g0, g1, g2⟩ := HS0.out.rd
  go_wp2_with fail
  refine (HN.out _).mono ?_
  rintro x y0 ⟨rfl, b0⟩
  have HX := hidk (HS0.out.call b0)
  clear HS0 b0 HN x0 x1 x2 g0 g1 g2
  obtain ⟨x0, x1, x2, g0, g1, g2⟩ := HX.out.rd
  obtain ⟨W0, HW⟩ : ∃ y, Hid (y = (((y0.setCell ⟨w.heap.size, 0, none⟩ (.string s)).setCell ⟨w.heap.size, 1, none⟩ (.int .i64 p0)).setCell ⟨w.heap.size, 2, none⟩ (.int .i64 e0))) := ⟨_, rfl⟩
  have HS1 := hidk (HX.out.read p0 e0)
  rw [← HW.out] at HS1
  go_upto_region 4 with fail
  rw [← HW.out]
  clear HW HX x0 x1 x2 g0 g1 g2
  go_wp2_with fail
  go_loopw [5, 7] (fun v5 i wr => ∃ (k p : Nat) (e : Int) (L : List ValV), k ≤ n ∧ i = .int .u64 (k : Int) ∧ p ≤ s.size ∧ Hid (takesK s p0 e0 k = (p, e, L)) ∧ Hid (RvAt w wr s p e v5 L)) (fun _ i _ => n - (intOf i).toNat)
  case atStart => exact ⟨0, p0, e0, [], Nat.zero_le _, rfl, hp0, rfl, HS1⟩
  case round =>
    obtain ⟨k, p, e, L, hk, rfl, hp, HT, HA⟩ := hrel
    clear HS1
    have ce := HA.out.rd.c2
    by_cases hka : k < n
    · have hka' : (k : Int) < (n : Int) := by omega
      by_cases he0 : e = 0
      · subst he0
        have hLk : L.length = k := by have := takesK_length s p0 e0 k; rw [HT.out] at this; exact this
        have HT1 : Hid (takesK s p0 e0 (k + 1) = ((takeF s p 0).1, (takeF s p 0).2.1, L ++ [(takeF s p 0).2.2])) := by show _ = _; unfold takesK; rw [HT.out]
        clear HT
        obtain ⟨⟨p1, e1, kd⟩, H1⟩ : ∃ X, Hid (numF s p 0 1 = X) := ⟨_, rfl⟩
        have hkd : kd < 256 := by have := knumF_lt s p 0 1; rw [show (((1 : Nat) : Int)) = 1 from rfl, H1.out] at this; exact this
        have hp1 : p1 ≤ s.size := by have := knumF_place (s := s) (p := p) (e := 0) 1 hp; rw [H1.out] at this; exact this
        have N1 : Hid (∀ w1, Calls Try.prog 29 #[.agg #[.string s, .int .i64 p, .int .i64 0], .int .i64 1] w1 fun x w' => x = .returned (.tuple #[.agg #[.string s, .int .i64 p1, .int .i64 e1], .int .u64 (kd : Nat)]) ∧ Below w1.heap.size w1 w') := fun w1 => by
          have := xnumber_any (s := s) (p := p) (e := 0) (w := w1) hs hp 1 (by omega)
          rw [H1.out] at this
          exact this
        have qk : IntKind.i64.wrap (kd : Int) = (kd : Int) := by rw [IntKind.wrap_i64]; omega
        have hsz := HA.out.sz
        obtain ⟨x0, x1, x2, g0, g1, g2⟩ := HA.out.rd
        go_wp2_with fail
        refine (N1.out _).mono ?_
        rintro x y1 ⟨rfl, b1⟩
        have HA1 := hidk (HA.out.call b1)
        have hsz1 := b1.size
        clear HA N1 b1 x0 x1 x2 g0 g1 g2 ce
        obtain ⟨x0, x1, x2, g0, g1, g2⟩ := HA1.out.rd
        have hzy := HA1.out.sz
        go_upto_region 8 with fail
        obtain ⟨V1, HV1⟩ : ∃ y, Hid (y = y1.alloc (.cells #[.string s, .int .i64 p1, .int .i64 e1] 69)) := ⟨_, rfl⟩
        have HA2 : Hid (RvAt w V1 s p 0 u5 L) := by show RvAt _ _ _ _ _ _ _; rw [HV1.out]; exact HA1.out.call ((Below.refl _ _).alloc (Nat.le_refl _) _)
        have HK : Row3 V1 y1.heap.size (.string s) (.int .i64 p1) (.int .i64 e1) := by rw [HV1.out]; exact Row3.new _ _ _ _ _
        have hzV : y1.heap.size < V1.heap.size := by rw [HV1.out]; simp
        rw [← HV1.out]
        clear HV1 HA1 x0 x1 x2 g0 g1 g2
        obtain ⟨k0, k1, k2, _, _, _⟩ := HK
        obtain ⟨x0, x1, x2, g0, g1, g2⟩ := HA2.out.rd
        have HA3 := hidk (HA2.out.read p1 e1)
        go_upto_region 9 with fail
        obtain ⟨V2, HV2⟩ : ∃ y, Hid (y = (((V1.setCell ⟨w.heap.size, 0, none⟩ (.string s)).setCell ⟨w.heap.size, 1, none⟩ (.int .i64 p1)).setCell ⟨w.heap.size, 2, none⟩ (.int .i64 e1))) := ⟨_, rfl⟩
        rw [← HV2.out] at HA3
        rw [← HV2.out]
        have hzV2 : V2.heap.size = V1.heap.size := by rw [HV2.out]; simp
        have HzV2 : Hid (w.heap.size < V2.heap.size) := by show _ < _; omega
        clear HV2 HA2 x0 x1 x2 g0 g1 g2 k0 k1 k2 hzV2 hzV
        go_upto_region 10 with fail
        obtain ⟨V3, HV3⟩ : ∃ y, Hid (y = V2.alloc (.cells #[.int .i64 (kd : Int), .int .i64 0, .string ⟨#[]⟩] 62)) := ⟨_, rfl⟩
        have HA4 : Hid (RvAt w V3 s p1 e1 u5 L) := by show RvAt _ _ _ _ _ _ _; rw [HV3.out]; exact HA3.out.call ((Below.refl _ _).alloc (Nat.le_refl _) _)
        have HVV : Hid (Row3 V3 V2.heap.size (.int .i64 (kd : Int)) (.int .i64 0) (.string ⟨#[]⟩)) := by show Row3 _ _ _ _ _; rw [HV3.out]; exact Row3.new _ _ _ _ _
        have hzV3 : V2.heap.size < V3.heap.size := by rw [HV3.out]; simp
        rw [← HV3.out]
        have hzw := HzV2.out
        have Hg : Hid (∀ g, u5.ownBlock = some g → g < V2.heap.size) := fun g hg => (World.ownsRow.lt HA3.out.own g hg).2
        clear HV3 HA3 HzV2
        by_cases d1 : kd = 1
        · subst d1
          obtain ⟨⟨p2, e2, x⟩, H2⟩ : ∃ X, Hid (numF s p1 e1 8 = X) := ⟨_, rfl⟩
          have hx : x < 18446744073709551616 := by have := knumF_lt s p1 e1 8; rw [show (((8 : Nat) : Int)) = 8 from rfl, H2.out] at this; exact this
          have hp2 : p2 ≤ s.size := by have := knumF_place (s := s) (p := p1) (e := e1) 8 hp1; rw [H2.out] at this; exact this
          have N2 : Hid (∀ w1, Calls Try.prog 29 #[.agg #[.string s, .int .i64 p1, .int .i64 e1], .int .i64 8] w1 fun x' w' => x' = .returned (.tuple #[.agg #[.string s, .int .i64 p2, .int .i64 e2], .int .u64 (x : Nat)]) ∧ Below w1.heap.size w1 w') := fun w1 => by
            have := xnumber_any (s := s) (p := p1) (e := e1) (w := w1) hs hp1 8 (by omega)
            rw [H2.out] at this
            exact this
          have hsg := sgn_wrap x hx
          obtain ⟨x0, x1, x2, g0, g1, g2⟩ := HA4.out.rd
          go_wp2_with fail
          refine (N2.out _).mono ?_
          rintro x' y2 ⟨rfl, b2⟩
          have HA5 := hidk (HA4.out.call b2)
          have HVV5 := hidk (HVV.out.below b2 hzV3)
          have hz5 : V2.heap.size < y2.heap.size := Nat.lt_of_lt_of_le hzV3 b2.size
          clear HA4 HVV N2 b2 x0 x1 x2 g0 g1 g2
          go_upto_region 12 with fail
          obtain ⟨V4, HV4⟩ : ∃ y, Hid (y = y2.alloc (.cells #[.string s, .int .i64 p2, .int .i64 e2] 69)) := ⟨_, rfl⟩
          have HA6 : Hid (RvAt w V4 s p1 e1 u5 L) := by show RvAt _ _ _ _ _ _ _; rw [HV4.out]; exact HA5.out.call ((Below.refl _ _).alloc (Nat.le_refl _) _)
          have HVV6 : Hid (Row3 V4 V2.heap.size (.int .i64 ((1 : Nat) : Int)) (.int .i64 0) (.string ⟨#[]⟩)) := by show Row3 _ _ _ _ _; rw [HV4.out]; exact HVV5.out.below ((Below.refl _ _).alloc (Nat.le_refl _) _) hz5
          have HK : Row3 V4 y2.heap.size (.string s) (.int .i64 p2) (.int .i64 e2) := by rw [HV4.out]; exact Row3.new _ _ _ _ _
          have hz6 : V2.heap.size < V4.heap.size := by rw [HV4.out]; simp; omega
          rw [← HV4.out]
          clear HV4 HA5 HVV5
          obtain ⟨k0, k1, k2, _, _, _⟩ := HK
          obtain ⟨x0, x1, x2, g0, g1, g2⟩ := HA6.out.rd
          have HA7 := hidk (HA6.out.read p2 e2)
          have HVV7 := hidk (HVV6.out.far3 (c := w.heap.size) (by omega) (.string s) (.int .i64 p2) (.int .i64 e2))
          go_upto_region 13 with fail
          obtain ⟨V5, HV5⟩ : ∃ y, Hid (y = (((V4.setCell ⟨w.heap.size, 0, none⟩ (.string s)).setCell ⟨w.heap.size, 1, none⟩ (.int .i64 p2)).setCell ⟨w.heap.size, 2, none⟩ (.int .i64 e2))) := ⟨_, rfl⟩
          rw [← HV5.out] at HA7 HVV7
          rw [← HV5.out]
          clear HV5 HA6 HVV6 x0 x1 x2 g0 g1 g2 k0 k1 k2
          have HA8 := hidk (HA7.out.beside hzw Hg.out 1 (.int .i64 (sgn x)))
          have HVV8 := hidk (HVV7.out.put1 (.int .i64 (sgn x)))
          obtain ⟨y0', y1', y2', h0', h1', h2'⟩ := HVV7.out
          go_upto_region 14 with fail
          obtain ⟨V6, HV6⟩ : ∃ y, Hid (y = V5.setCell ⟨V2.heap.size, 1, none⟩ (.int .i64 (sgn x))) := ⟨_, rfl⟩
          rw [← HV6.out] at HA8 HVV8
          rw [← HV6.out]
          clear HV6 HA7 HVV7 y0' y1' y2' h0' h1' h2'
          have HAF := HA8
          have HVF := HVV8
          obtain ⟨z0, z1, z2, _, _, _⟩ := HVF.out
          have KA : Below V6.heap.size V6 (V6.alloc (.cells #[.int .i64 (((1 : Nat) : Int)), .int .i64 (sgn x), .string (⟨#[]⟩)] 62)) := (Below.refl _ _).alloc (Nat.le_refl _) _
          have hown : Hid ((V6.alloc (.cells #[.int .i64 (((1 : Nat) : Int)), .int .i64 (sgn x), .string (⟨#[]⟩)] 62)).ownsRow (w.heap.size + 1) 62 3 u5 L.length (L.flatMap ValV.cells)) := HAF.out.own.alloc _
          have HNW : Hid (∀ j uu, (ValV.cells ⟨((1 : Nat) : Int), sgn x, ⟨#[]⟩⟩)[j]? = some uu → (V6.alloc (.cells #[.int .i64 (((1 : Nat) : Int)), .int .i64 (sgn x), .string (⟨#[]⟩)] 62)).cell? ((⟨V6.heap.size, 0, none⟩ : Addr).add j) = some uu) := World.news_of_block (heap_alloc_new V6 _)
          have HON : Hid (∀ u ∈ ValV.cells ⟨((1 : Nat) : Int), sgn x, ⟨#[]⟩⟩, u.oneCell' = true) := by intro u hu; simp [ValV.cells] at hu; rcases hu with rfl | rfl | rfl <;> rfl
          have hszF := HAF.out.sz
          go_wp2_with (at_builtin; refine wpList_append_own_at _ rfl _ _ 28 rfl (w.heap.size + 1) 62 i0 _ 3 32 Try.underlying28 hi hz0 hz1 hz2 rfl (by decide) u5 L.length (L.flatMap ValV.cells) rfl hown.out ⟨V6.heap.size, 0, none⟩ 1 1 (ValV.cells ⟨((1 : Nat) : Int), sgn x, ⟨#[]⟩⟩) rfl rfl HNW.out HON.out (by unfold maxLen; omega) (by omega) (by simp; omega) ?_; intro v' w7 hown7 hgr7 hnil7 hat7; obtain ⟨va7, vm7, vc7, rfl⟩ := kowns_val hown7; have HN7 := hidk (HAF.out.push (t := ⟨((1 : Nat) : Int), sgn x, ⟨#[]⟩⟩) KA hown7 hgr7))
          go_roundw
          case rel =>
            refine ⟨k + 1, p2, e2, L ++ [⟨((1 : Nat) : Int), sgn x, ⟨#[]⟩⟩], by omega, by go_num, hp2, ?_, by assumption⟩
            show _ = _
            rw [HT1.out]
            unfold takeF
            rw [H1.out]
            simp only [if_pos]
            rw [H2.out]
            rfl
          case measure => simp [intOf]; omega
        · by_cases d2 : kd = 2
          · subst d2
            obtain ⟨⟨p2, e2, x⟩, H2⟩ : ∃ X, Hid (numF s p1 e1 1 = X) := ⟨_, rfl⟩
            have hx : x < 256 := by have := knumF_lt s p1 e1 1; rw [show (((1 : Nat) : Int)) = 1 from rfl, H2.out] at this; exact this
            have hp2 : p2 ≤ s.size := by have := knumF_place (s := s) (p := p1) (e := e1) 1 hp1; rw [H2.out] at this; exact this
            have N2 : Hid (∀ w1, Calls Try.prog 29 #[.agg #[.string s, .int .i64 p1, .int .i64 e1], .int .i64 1] w1 fun x' w' => x' = .returned (.tuple #[.agg #[.string s, .int .i64 p2, .int .i64 e2], .int .u64 (x : Nat)]) ∧ Below w1.heap.size w1 w') := fun w1 => by
              have := xnumber_any (s := s) (p := p1) (e := e1) (w := w1) hs hp1 1 (by omega)
              rw [H2.out] at this
              exact this
            obtain ⟨⟨p3, e3, t⟩, H3⟩ : ∃ X, Hid (bytesF s p2 e2 (x : Int) = X) := ⟨_, rfl⟩
            have hp3 : p3 ≤ s.size := by have := kbytesF_place (s := s) (p := p2) (e := e2) (x : Int) hp2; rw [H3.out] at this; exact this
            have N3 : Hid (∀ w1, Calls Try.prog 30 #[.agg #[.string s, .int .i64 p2, .int .i64 e2], .int .i64 (x : Int)] w1 fun x' w' => x' = .returned (.tuple #[.agg #[.string s, .int .i64 p3, .int .i64 e3], .string ⟨t.toArray⟩]) ∧ Below w1.heap.size w1 w') := fun w1 => by
              have := xtake_any (s := s) (p := p2) (e := e2) (w := w1) hs hp2 (x : Int) (by omega)
              rw [H3.out] at this
              exact this
            have hsg : IntKind.i64.wrap (x : Int) = (x : Int) := by rw [IntKind.wrap_i64]; omega
            obtain ⟨x0, x1, x2, g0, g1, g2⟩ := HA4.out.rd
            go_wp2_with fail
            refine (N2.out _).mono ?_
            rintro x' y2 ⟨rfl, b2⟩
            have HA5 := hidk (HA4.out.call b2)
            have HVV5 := hidk (HVV.out.below b2 hzV3)
            have hz5 : V2.heap.size < y2.heap.size := Nat.lt_of_lt_of_le hzV3 b2.size
            clear HA4 HVV N2 b2 x0 x1 x2 g0 g1 g2
            go_upto_region 16 with fail
            obtain ⟨V4, HV4⟩ : ∃ y, Hid (y = y2.alloc (.cells #[.string s, .int .i64 p2, .int .i64 e2] 69)) := ⟨_, rfl⟩
            have HA6 : Hid (RvAt w V4 s p1 e1 u5 L) := by show RvAt _ _ _ _ _ _ _; rw [HV4.out]; exact HA5.out.call ((Below.refl _ _).alloc (Nat.le_refl _) _)
            have HVV6 : Hid (Row3 V4 V2.heap.size (.int .i64 ((2 : Nat) : Int)) (.int .i64 0) (.string ⟨#[]⟩)) := by show Row3 _ _ _ _ _; rw [HV4.out]; exact HVV5.out.below ((Below.refl _ _).alloc (Nat.le_refl _) _) hz5
            have HK : Row3 V4 y2.heap.size (.string s) (.int .i64 p2) (.int .i64 e2) := by rw [HV4.out]; exact Row3.new _ _ _ _ _
            have hz6 : y2.heap.size < V4.heap.size := by rw [HV4.out]; simp
            rw [← HV4.out]
            clear HV4 HA5 HVV5
            have HK7 := hidk (HK.far3 (c := w.heap.size) (by omega) (.string s) (.int .i64 p2) (.int .i64 e2))
            obtain ⟨k0, k1, k2, _, _, _⟩ := HK
            obtain ⟨x0, x1, x2, g0, g1, g2⟩ := HA6.out.rd
            have HA7 := hidk (HA6.out.read p2 e2)
            have HVV7 := hidk (HVV6.out.far3 (c := w.heap.size) (by omega) (.string s) (.int .i64 p2) (.int .i64 e2))
            go_upto_region 17 with fail
            obtain ⟨V5, HV5⟩ : ∃ y, Hid (y = (((V4.setCell ⟨w.heap.size, 0, none⟩ (.string s)).setCell ⟨w.heap.size, 1, none⟩ (.int .i64 p2)).setCell ⟨w.heap.size, 2, none⟩ (.int .i64 e2))) := ⟨_, rfl⟩
            rw [← HV5.out] at HA7 HVV7 HK7
            rw [← HV5.out]
            have hz7 : y2.heap.size < V5.heap.size := by rw [HV5.out]; simpa using hz6
            clear HV5 HA6 HVV6 x0 x1 x2 g0 g1 g2 k0 k1 k2
            obtain ⟨x0, x1, x2, g0, g1, g2⟩ := HA7.out.rd
            go_wp2_with fail
            refine (N3.out _).mono ?_
            rintro x' y3 ⟨rfl, b3⟩
            have HA8 := hidk (HA7.out.call b3)
            have HVV8 := hidk (HVV7.out.below b3 (by omega))
            have HK8 := hidk (HK7.out.below b3 hz7)
            clear HA7 HVV7 HK7 N3 b3 x0 x1 x2 g0 g1 g2
            have HA9 := hidk ((((HA8.out.beside (b := y2.heap.size) (by omega) (fun g hg => by have := Hg.out g hg; omega) 0 (.string s)).beside (b := y2.heap.size) (by omega) (fun g hg => by have := Hg.out g hg; omega) 1 (.int .i64 p3)).beside (b := y2.heap.size) (by omega) (fun g hg => by have := Hg.out g hg; omega) 2 (.int .i64 e3)).beside hzw Hg.out 2 (.string ⟨t.toArray⟩))
            have HVV9 := hidk ((HVV8.out.far3 (c := y2.heap.size) (by omega) (.string s) (.int .i64 p3) (.int .i64 e3)).put2 (.string ⟨t.toArray⟩))
            have HK9 := hidk ((HK8.out.set (.string s) (.int .i64 p3) (.int .i64 e3)).setFar (c := V2.heap.size) (by omega) 2 (.string ⟨t.toArray⟩))
            have HVx := HVV8.out.far3 (c := y2.heap.size) (by omega) (.string s) (.int .i64 p3) (.int .i64 e3)
            obtain ⟨k0, k1, k2, m0, m1, m2⟩ := HK8.out
            obtain ⟨y0', y1', y2', h0', h1', h2'⟩ := HVV8.out
            have hnn : y2.heap.size ≠ V2.heap.size := by omega
            have hnm : V2.heap.size ≠ y2.heap.size := by omega
            go_upto_region 18 with fail
            obtain ⟨V6, HV6⟩ : ∃ y, Hid (y = ((((y3.setCell ⟨y2.heap.size, 0, none⟩ (.string s)).setCell ⟨y2.heap.size, 1, none⟩ (.int .i64 p3)).setCell ⟨y2.heap.size, 2, none⟩ (.int .i64 e3)).setCell ⟨V2.heap.size, 2, none⟩ (.string ⟨t.toArray⟩))) := ⟨_, rfl⟩
            rw [← HV6.out] at HA9 HVV9 HK9
            rw [← HV6.out]
            clear HV6 HA8 HVV8 HK8 HVx y0' y1' y2' h0' h1' h2' k0 k1 k2 m0 m1 m2
            obtain ⟨k0, k1, k2, _, _, _⟩ := HK9.out
            obtain ⟨x0, x1, x2, g0, g1, g2⟩ := HA9.out.rd
            have HAF := hidk (HA9.out.read p3 e3)
            have HVF := hidk (HVV9.out.far3 (c := w.heap.size) (by omega) (.string s) (.int .i64 p3) (.int .i64 e3))
            go_upto_region 19 with fail
            obtain ⟨V7, HV7⟩ : ∃ y, Hid (y = (((V6.setCell ⟨w.heap.size, 0, none⟩ (.string s)).setCell ⟨w.heap.size, 1, none⟩ (.int .i64 p3)).setCell ⟨w.heap.size, 2, none⟩ (.int .i64 e3))) := ⟨_, rfl⟩
            rw [← HV7.out] at HAF HVF
            rw [← HV7.out]
            clear HV7 HA9 HVV9 HK9 x0 x1 x2 g0 g1 g2 k0 k1 k2
            obtain ⟨z0, z1, z2, _, _, _⟩ := HVF.out
            have KA : Below V7.heap.size V7 (V7.alloc (.cells #[.int .i64 (((2 : Nat) : Int)), .int .i64 (0), .string (⟨t.toArray⟩)] 62)) := (Below.refl _ _).alloc (Nat.le_refl _) _
            have hown : Hid ((V7.alloc (.cells #[.int .i64 (((2 : Nat) : Int)), .int .i64 (0), .string (⟨t.toArray⟩)] 62)).ownsRow (w.heap.size + 1) 62 3 u5 L.length (L.flatMap ValV.cells)) := HAF.out.own.alloc _
            have HNW : Hid (∀ j uu, (ValV.cells ⟨((2 : Nat) : Int), 0, ⟨t.toArray⟩⟩)[j]? = some uu → (V7.alloc (.cells #[.int .i64 (((2 : Nat) : Int)), .int .i64 (0), .string (⟨t.toArray⟩)] 62)).cell? ((⟨V7.heap.size, 0, none⟩ : Addr).add j) = some uu) := World.news_of_block (heap_alloc_new V7 _)
            have HON : Hid (∀ u ∈ ValV.cells ⟨((2 : Nat) : Int), 0, ⟨t.toArray⟩⟩, u.oneCell' = true) := by intro u hu; simp [ValV.cells] at hu; rcases hu with rfl | rfl | rfl <;> rfl
            have hszF := HAF.out.sz
            go_wp2_with (at_builtin; refine wpList_append_own_at _ rfl _ _ 28 rfl (w.heap.size + 1) 62 i0 _ 3 32 Try.underlying28 hi hz0 hz1 hz2 rfl (by decide) u5 L.length (L.flatMap ValV.cells) rfl hown.out ⟨V7.heap.size, 0, none⟩ 1 1 (ValV.cells ⟨((2 : Nat) : Int), 0, ⟨t.toArray⟩⟩) rfl rfl HNW.out HON.out (by unfold maxLen; omega) (by omega) (by simp; omega) ?_; intro v' w7 hown7 hgr7 hnil7 hat7; obtain ⟨va7, vm7, vc7, rfl⟩ := kowns_val hown7; have HN7 := hidk (HAF.out.push (t := ⟨((2 : Nat) : Int), 0, ⟨t.toArray⟩⟩) KA hown7 hgr7))
            go_roundw
            case rel =>
              refine ⟨k + 1, p3, e3, L ++ [⟨((2 : Nat) : Int), 0, ⟨t.toArray⟩⟩], by omega, by go_num, hp3, ?_, by assumption⟩
              show _ = _
              rw [HT1.out]
              unfold takeF
              rw [H1.out]
              simp only [if_neg (show ¬ (2 : Nat) = 1 by omega), if_pos]
              rw [H2.out]
              simp only
              rw [H3.out]
              rfl
            case measure => simp [intOf]; omega
          · have q1 : ((kd : Int) == 1) = false := by rw [beq_eq_false_iff_ne]; omega
            have q2 : ((kd : Int) == 2) = false := by rw [beq_eq_false_iff_ne]; omega
            have HAF := HA4
            have HVF := HVV
            obtain ⟨z0, z1, z2, _, _, _⟩ := HVF.out
            have KA : Below V3.heap.size V3 (V3.alloc (.cells #[.int .i64 ((kd : Int)), .int .i64 (0), .string (⟨#[]⟩)] 62)) := (Below.refl _ _).alloc (Nat.le_refl _) _
            have hown : Hid ((V3.alloc (.cells #[.int .i64 ((kd : Int)), .int .i64 (0), .string (⟨#[]⟩)] 62)).ownsRow (w.heap.size + 1) 62 3 u5 L.length (L.flatMap ValV.cells)) := HAF.out.own.alloc _
            have HNW : Hid (∀ j uu, (ValV.cells ⟨(kd : Int), 0, ⟨#[]⟩⟩)[j]? = some uu → (V3.alloc (.cells #[.int .i64 ((kd : Int)), .int .i64 (0), .string (⟨#[]⟩)] 62)).cell? ((⟨V3.heap.size, 0, none⟩ : Addr).add j) = some uu) := World.news_of_block (heap_alloc_new V3 _)
            have HON : Hid (∀ u ∈ ValV.cells ⟨(kd : Int), 0, ⟨#[]⟩⟩, u.oneCell' = true) := by intro u hu; simp [ValV.cells] at hu; rcases hu with rfl | rfl | rfl <;> rfl
            have hszF := HAF.out.sz
            go_wp2_with (at_builtin; refine wpList_append_own_at _ rfl _ _ 28 rfl (w.heap.size + 1) 62 i0 _ 3 32 Try.underlying28 hi hz0 hz1 hz2 rfl (by decide) u5 L.length (L.flatMap ValV.cells) rfl hown.out ⟨V3.heap.size, 0, none⟩ 1 1 (ValV.cells ⟨(kd : Int), 0, ⟨#[]⟩⟩) rfl rfl HNW.out HON.out (by unfold maxLen; omega) (by omega) (by simp; omega) ?_; intro v' w7 hown7 hgr7 hnil7 hat7; obtain ⟨va7, vm7, vc7, rfl⟩ := kowns_val hown7; have HN7 := hidk (HAF.out.push (t := ⟨(kd : Int), 0, ⟨#[]⟩⟩) KA hown7 hgr7))
            go_roundw
            case rel =>
              refine ⟨k + 1, p1, e1, L ++ [⟨(kd : Int), 0, ⟨#[]⟩⟩], by omega, by go_num, hp1, ?_, by assumption⟩
              show _ = _
              rw [HT1.out]
              unfold takeF
              rw [H1.out]
              simp only [if_neg d1, if_neg d2]
            case measure => simp [intOf]; omega
      · -- an error: the loop ends
        have hen : (e == 0) = false := by rw [beq_eq_false_iff_ne]; exact he0
        have Hno : Hid (valsB s = false) := by
          show _ = _
          have hst := takes_stays (s := s) (p := p0) (e := e0) (k := k) (by rw [HT.out]; exact he0) (n - k)
          rw [show k + (n - k) = n by omega, ← HR.out] at hst
          unfold valsB
          rw [decide_eq_false, Bool.false_and]
          unfold endE
          rw [if_neg (fun q => hst q.1)]
          exact hst
        have HSz : Hid (∀ v ∈ L, v.S.size ≤ 9223372036854775807) := fun v hv => by have := takesK_size s p0 e0 k v (by rw [HT.out]; exact hv); omega
        have hLk : L.length = k := by have := takesK_length s p0 e0 k; rw [HT.out] at this; exact this
        obtain ⟨aL, cL, hv5, hVL⟩ := owns_vals HA.out.own
        subst hv5
        have HRow := hidk (rrow_any aL cL L wr hVL (by omega) HSz.out)
        generalize rowB L = XB at HRow
        generalize rowE L = XE at HRow
        clear hVL hLk HSz
        have hb := HA.out.sz
        go_wp2_with fail
        refine HRow.out.mono ?_
        rintro x y1 ⟨rfl, b1⟩
        have ce1 := (b1.cell (p := ⟨w.heap.size, 2, none⟩) hb).trans ce
        have hen' : (e != 0) = true := by rw [bne_iff_ne]; exact he0
        clear ce
        go_wp2
        go_ret2
        have hEE : E = 6 := by rw [← HE.out]; unfold valsE; rw [Hno.out]; rfl
        have hMM : M = [] := by rw [← HM.out]; unfold valsL; rw [Hno.out]; rfl
        exact ⟨none, 0, by rw [hEE, hMM]; rfl, Or.inl hMM, below_chain HA.out.bel b1⟩
    · obtain rfl : k = n := by omega
      have hka' : ¬ (k : Int) < (k : Int) := by omega
      have HSz : Hid (∀ v ∈ L, v.S.size ≤ 9223372036854775807) := fun v hv => by have := takesK_size s p0 e0 k v (by rw [HT.out]; exact hv); omega
      have hLk : L.length = k := by have := takesK_length s p0 e0 k; rw [HT.out] at this; exact this
      have HRV : Hid (readV s = (p, e, L)) := by show _ = _; rw [HR.out, HT.out]
      obtain ⟨aL, cL, hv5, hVL⟩ := owns_vals HA.out.own
      subst hv5
      have HVL := hidk hVL
      have HRow := hidk (rrow_any aL cL L wr hVL (by omega) HSz.out)
      have HVB : Hid (valsB s = (decide (endE s p e = 0) && decide (rowE L = 0))) := by show _ = _; unfold valsB; rw [HRV.out]
      clear hVL hLk HSz HT HR
      have hb := HA.out.sz
      have cp := HA.out.rd.c1
      by_cases he0 : e = 0
      rotate_left
      · have hen' : (e != 0) = true := by rw [bne_iff_ne]; exact he0
        have Hno : Hid (valsB s = false) := by
          show _ = _
          rw [HVB.out, decide_eq_false, Bool.false_and]
          unfold endE
          rw [if_neg (fun q => he0 q.1)]
          exact he0
        generalize rowB L = XB at HRow
        generalize rowE L = XE at HRow
        go_wp2_with fail
        refine HRow.out.mono ?_
        rintro x y1 ⟨rfl, b1⟩
        have ce1 := (b1.cell (p := ⟨w.heap.size, 2, none⟩) hb).trans ce
        clear ce cp
        go_wp2
        go_ret2
        have hEE : E = 6 := by rw [← HE.out]; unfold valsE; rw [Hno.out]; rfl
        have hMM : M = [] := by rw [← HM.out]; unfold valsL; rw [Hno.out]; rfl
        exact ⟨none, 0, by rw [hEE, hMM]; rfl, Or.inl hMM, below_chain HA.out.bel b1⟩
      subst he0
      by_cases hps : p = s.size
      rotate_left
      · have hpn : ((p : Int) != (s.size : Int)) = true := by rw [bne_iff_ne]; omega
        have Hno : Hid (valsB s = false) := by
          show _ = _
          rw [HVB.out, decide_eq_false, Bool.false_and]
          unfold endE
          rw [if_pos ⟨rfl, by omega⟩]
          omega
        generalize rowB L = XB at HRow
        generalize rowE L = XE at HRow
        go_wp2_with fail
        refine HRow.out.mono ?_
        rintro x y1 ⟨rfl, b1⟩
        have ce1 := (b1.cell (p := ⟨w.heap.size, 2, none⟩) hb).trans ce
        have cp1 := (b1.cell (p := ⟨w.heap.size, 1, none⟩) hb).trans cp
        clear ce cp
        go_wp2
        go_ret2
        have hEE : E = 6 := by rw [← HE.out]; unfold valsE; rw [Hno.out]; rfl
        have hMM : M = [] := by rw [← HM.out]; unfold valsL; rw [Hno.out]; rfl
        exact ⟨none, 0, by rw [hEE, hMM]; rfl, Or.inl hMM, below_chain HA.out.bel b1⟩
      have hpn : ((p : Int) != (s.size : Int)) = false := by rw [hps]; simp
      have HEnd : Hid (endE s p 0 = 0) := by show _ = _; unfold endE; rw [if_neg (by omega)]
      by_cases hrE : rowE L = 0
      rotate_left
      · have Hno : Hid (valsB s = false) := by
          show _ = _
          rw [HVB.out, decide_eq_false hrE, Bool.and_false]
        generalize rowB L = XB at HRow
        generalize rowE L = XE at HRow hrE
        have hXE : (XE != 0) = true := by rw [bne_iff_ne]; exact hrE
        clear hps
        go_wp2_with fail
        refine HRow.out.mono ?_
        rintro x y1 ⟨rfl, b1⟩
        have ce1 := (b1.cell (p := ⟨w.heap.size, 2, none⟩) hb).trans ce
        have cp1 := (b1.cell (p := ⟨w.heap.size, 1, none⟩) hb).trans cp
        clear ce cp
        go_wp2
        go_ret2
        have hEE : E = 6 := by rw [← HE.out]; unfold valsE; rw [Hno.out]; rfl
        have hMM : M = [] := by rw [← HM.out]; unfold valsL; rw [Hno.out]; rfl
        exact ⟨none, 0, by rw [hEE, hMM]; rfl, Or.inl hMM, below_chain HA.out.bel b1⟩
      · have Hyes : Hid (valsB s = true) := by
          show _ = _
          rw [HVB.out, HEnd.out, hrE]; rfl
        have Hback : Hid ((⟨(rowB L).toArray⟩ : ByteArray) = s) := by
          show _ = _
          have hb := (read_back (s := s) (by rw [HRV.out]; exact HEnd.out)).2.1
          rw [HRV.out] at hb
          rw [rowB_ok hrE]
          simp only at hb
          rw [hb]
        rw [hrE, Hback.out] at HRow
        have hss : (s.toList == s.toList) = true := by simp
        clear hps hrE HVB
        go_wp2_with fail
        refine HRow.out.mono ?_
        rintro x y1 ⟨rfl, b1⟩
        have ce1 := (b1.cell (p := ⟨w.heap.size, 2, none⟩) hb).trans ce
        have cp1 := (b1.cell (p := ⟨w.heap.size, 1, none⟩) hb).trans cp
        clear ce cp
        go_wp2
        go_ret2
        have hEE : E = 0 := by rw [← HE.out]; unfold valsE; rw [if_pos Hyes.out]
        have hMM : M = L := by rw [← HM.out]; unfold valsL; rw [if_pos Hyes.out, HRV.out]
        exact ⟨aL, cL, by rw [hEE, hMM]; rfl, by show ValsAt _ _ _; rw [hMM]; exact HVL.out.below b1, below_chain HA.out.bel b1⟩

end Go.Proofs.Ytgammhmgdafpkaa
