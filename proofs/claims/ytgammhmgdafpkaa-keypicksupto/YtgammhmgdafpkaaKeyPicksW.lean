/-
  The walk of KeyPicks, of at most 2^40 columns.
-/
import Derived.Test.YtgammhmgdafpkaaKeyPick
import Derived.Test.YtgammhmgdafpkaaKeyCmp
import Derived.Test.YtgammhmgdafpkaaKeyRVals
import Derived.Test.YtgammhmgdafpkaaKeySame
import Derived.Deep.CutRange
import Derived.Deep.CutBlock
import Derived.BigRegion
namespace Go.Proofs.Ytgammhmgdafpkaa
open Go.RowKit Go.Sort
set_option linter.unusedVariables false
set_option linter.unusedSimpArgs false

/-- An entry: a key, a page, a slot. -/
abbrev EntV := ByteArray × Nat × Int

/-- Two entries held against one another. -/
def entC (x y : EntV) : Int := or3 (scmpF x.1 y.1) (kcmpF x.2.1 y.2.1) (kcmpF x.2.2 y.2.2)

/-- The law's loop stands behind k columns. -/
structure PkAt (w wx : World) (R : List ValV) (C : List Int) (k : Nat) (ok : Bool) (v : Value) : Prop where
  bel : Below w.heap.size w wx
  le : k ≤ C.length
  yes : ok = true → (C.take k).all (colB R.length) = true ∧ wx.ownsRow w.heap.size 47 3 v k ((pickV R (C.take k)).flatMap ValV.cells)
  no : ok = false → C.all (colB R.length) = false

theorem PkAt.push {w wx wa w7 : World} {R : List ValV} {C : List Int} {k : Nat} {v v' : Value} (h : PkAt w wx R C k true v) (hk : k < C.length) (hq : C[k].toNat < R.length) (h0 : 0 ≤ C[k]) (k1 : Below wx.heap.size wx wa) (o1 : w7.ownsRow w.heap.size 47 3 v' (k + 1) ((pickV R (C.take k)).flatMap ValV.cells ++ (R[C[k].toNat]).cells)) (g1 : wa.grownBy w7 v.ownBlock) : PkAt w w7 R C (k + 1) true v' := by
  obtain ⟨hy, ho⟩ := h.yes rfl
  refine ⟨(below_chain h.bel k1).grown g1 (Nat.le_trans h.bel.size k1.size) (fun z hz => (World.ownsRow.lt ho z hz).1), hk, fun _ => ⟨?_, ?_⟩, fun e => by cases e⟩
  · rw [List.take_succ_eq_append_getElem hk, List.all_append, hy]
    simp [colB]; omega
  · rw [List.take_succ_eq_append_getElem hk, pickV_snoc, List.flatMap_append]
    simp only [List.getElem?_eq_getElem hq, Option.getD_some, List.flatMap_cons, List.flatMap_nil, List.append_nil]
    exact o1

theorem two_new (w : World) (a0 a1 a2 b0 b1 b2 : Value) (t : TypeId) : Row3 ((w.alloc (.cells #[a0, a1, a2] t)).alloc (.cells #[b0, b1, b2] t)).drew w.heap.size a0 a1 a2 ∧ Row3 ((w.alloc (.cells #[a0, a1, a2] t)).alloc (.cells #[b0, b1, b2] t)).drew (w.heap.size + 1) b0 b1 b2 ∧ Below w.heap.size w ((w.alloc (.cells #[a0, a1, a2] t)).alloc (.cells #[b0, b1, b2] t)).drew := by
  have h := two_rows (w := w) (v0 := a0) (v1 := a1) (v2 := a2) (u0 := b0) (u1 := b1) (u2 := b2) (t := t) (u := t) (Below.refl _ _).drew
  exact h

theorem kbless_toList (x y : ByteArray) : Go.Op.bytesLess x.toList y.toList = Go.Op.bytesLess x.data.toList y.data.toList := by rw [ByteArray.toList_eq, ByteArray.toList_eq]

theorem ent_same (k : ByteArray) (p : Nat) (s : Int) : or3 (scmpF k k) (kcmpF (p : Int) (p : Int)) (kcmpF s s) = 0 := by
  have h0 : scmpF k k = 0 := by unfold scmpF; rw [kbless_toList, bless_irrefl]; simp
  have h1 : kcmpF (p : Int) (p : Int) = 0 := by unfold kcmpF; simp
  have h2 : kcmpF s s = 0 := by unfold kcmpF; simp
  rw [h0, h1, h2]; rfl

theorem kcmp_zero {x y : Int} (h : kcmpF x y = 0) : x = y := by
  unfold kcmpF at h
  split at h
  · omega
  · split at h
    · omega
    · omega

theorem kcmp_three (x y : Int) : kcmpF x y = -1 ∨ kcmpF x y = 0 ∨ kcmpF x y = 1 := by
  unfold kcmpF
  split
  · exact Or.inl rfl
  · split
    · exact Or.inr (Or.inr rfl)
    · exact Or.inr (Or.inl rfl)

theorem scmp_zero {x y : ByteArray} (h : scmpF x y = 0) : x = y := by
  unfold scmpF at h
  split at h
  · omega
  · split at h
    · assumption
    · omega

theorem scmp_three (x y : ByteArray) : scmpF x y = -1 ∨ scmpF x y = 0 ∨ scmpF x y = 1 := by
  unfold scmpF
  split
  · exact Or.inl rfl
  · split
    · exact Or.inr (Or.inl rfl)
    · exact Or.inr (Or.inr rfl)

theorem ent_zero {k l : ByteArray} {p q : Nat} {s u : Int} (h : or3 (scmpF k l) (kcmpF (p : Int) (q : Int)) (kcmpF s u) = 0) : k = l ∧ p = q ∧ s = u := by
  unfold or3 at h
  by_cases h0 : scmpF k l = 0
  · rw [if_neg (by simp [h0])] at h
    by_cases h1 : kcmpF (p : Int) (q : Int) = 0
    · rw [if_neg (by simp [h1])] at h
      have := kcmp_zero h1
      exact ⟨scmp_zero h0, by omega, kcmp_zero h⟩
    · rw [if_pos h1] at h; exact absurd h h1
  · rw [if_pos h0] at h; exact absurd h h0

theorem ent_one {k l : ByteArray} {p q : Nat} {s u E : Int} (h : or3 (scmpF k l) (kcmpF (p : Int) (q : Int)) (kcmpF s u) = E) (h1 : E ≠ -1) (h2 : E ≠ 0) : E = 1 := by
  unfold or3 at h
  split at h
  · rcases scmp_three k l with z | z | z <;> omega
  · split at h
    · rcases kcmp_three (p : Int) (q : Int) with z | z | z <;> omega
    · rcases kcmp_three s u with z | z | z <;> omega

set_option maxHeartbeats 6400000 in
set_option maxRecDepth 20000 in
theorem picks_walk (a1 a2 : Option Addr) (c1 c2 : Nat) (R : List ValV) (C : List Int) (x y : EntV) (w : World) (hR : ValsAt w a1 R) (hC : KInts w a2 C) (hl : C.length ≤ 1099511627776) (hlR : R.length * 32 ≤ 140737488351232) (hS : ∀ v ∈ R, v.S.size ≤ 140737488351232) :
    Calls Try.prog 4 #[.slice a1 R.length c1, .slice a2 C.length c2, .agg #[.string x.1, .int .u32 x.2.1, .int .i64 x.2.2, .string y.1, .int .u32 y.2.1, .int .i64 y.2.2]] w fun e w' => e = .returned (.bool true) ∧ Below w.heap.size w w' := by
  obtain ⟨xk, xp, xs⟩ := x
  obtain ⟨yk, yp, ys⟩ := y
  simp only
  obtain ⟨i0, hi, hz0, hz1, hz2⟩ := info_parts pick_infoVal
  obtain ⟨W, HW⟩ : ∃ W, Hid (W = w.alloc (.cells #[.string xk, .int .u32 xp, .int .i64 xs, .string yk, .int .u32 yp, .int .i64 ys] 44)) := ⟨_, rfl⟩
  have bW : Below w.heap.size w W := by rw [HW.out]; exact (Below.refl _ _).alloc (Nat.le_refl _) _
  have hzW : w.heap.size < W.heap.size := by rw [HW.out]; simp
  have HES : Hid (W.heap[w.heap.size]? = some (.cells #[.string xk, .int .u32 xp, .int .i64 xs, .string yk, .int .u32 yp, .int .i64 ys] 44 (0, 0))) := by show _ = _; rw [HW.out]; exact heap_alloc_new _ _
  have HR := hidk (hR.below bW)
  have HC := hidk (hC.below bW)
  go_enter Try.func4, Try.ntmps4
  go_upto_region 1 with fail
  rw [← HW.out]
  clear HW hR hC
  go_wp2_with fail
  refine (pick_any a1 a2 c1 c2 R C W HR.out HC.out (by omega) (by omega) (fun v hv => by have := hS v hv; omega)).mono ?_
  rintro e w1 ⟨ap, cp, rfl, HVp, b1⟩
  obtain ⟨E, HE⟩ : ∃ E, Hid (pickE R C = E) := ⟨_, rfl⟩
  obtain ⟨M, HM⟩ : ∃ M, Hid (pickL R C = M) := ⟨_, rfl⟩
  rw [HE.out, HM.out]
  rw [HM.out] at HVp
  have HB1 := hidk (below_chain bW b1)
  have HES1 := hidk ((b1.block _ hzW).trans HES.out)
  have hz1w : w.heap.size < w1.heap.size := Nat.lt_of_lt_of_le hzW b1.size
  have HR1 := hidk (HR.out.below b1)
  have HC1 := hidk (HC.out.below b1)
  clear HR HC HES bW b1 hzW
  go_upto_block 0 with fail
  go_cut [9, 10, 11] from 22 to 55 (fun v9 v10 v11 wx => ∃ ok : Bool, v10 = .bool ok ∧ Hid (PkAt w1 wx R C C.length ok v9))
  case first =>
    go_wp2_with fail
    go_loopw [9, 10, 11] (fun v9 v10 i wr => ∃ (k : Nat) (ok : Bool), v10 = .bool ok ∧ i = .int .i64 k ∧ Hid (PkAt w1 wr R C k ok v9)) (fun _ _ i _ => C.length - (intOf i).toNat)
    case atStart =>
      refine ⟨0, true, rfl, rfl, ?_⟩
      exact ⟨(Below.refl _ _).alloc (Nat.le_refl _) _, Nat.zero_le _, fun _ => ⟨rfl, World.ownsRow_lit w1 #[] 0 (Nat.le_refl _) (by unfold maxLen; omega) rfl⟩, fun e => by cases e⟩
    case round =>
      obtain ⟨k, ok, rfl, rfl, HP⟩ := hrel
      have hkC := HP.out.le
      cases ok with
      | false =>
        by_cases hlt : k < C.length
        · have hi1 : (k : Int) < (C.length : Int) := by omega
          go_wp2
          go_meet
          case rel => exact ⟨false, rfl, ⟨HP.out.bel, Nat.le_refl _, fun e => by (cases e), HP.out.no⟩⟩
        · have hi1 : ¬ (k : Int) < (C.length : Int) := by omega
          go_wp2
          go_meet
          case rel => exact ⟨false, rfl, ⟨HP.out.bel, Nat.le_refl _, fun e => by (cases e), HP.out.no⟩⟩
      | true =>
        by_cases hlt : k < C.length
        · have hi0 : (0 : Int) ≤ (k : Int) := by omega
          have hi1 : (k : Int) < (C.length : Int) := by omega
          have hCk := HC1.out.below HP.out.bel
          rcases hCk with hCk | ⟨b2, o2, rfl, hb2, g2⟩
          · rw [hCk] at hlt; simp at hlt
          have x0 := g2 k hlt
          have Hbad : Hid (¬ (0 ≤ C[k] ∧ C[k] < R.length) → C.all (colB R.length) = false) := col_bad hlt
          have HPU := hidk (fun (wa w7 : World) (v' : Value) => HP.out.push (wa := wa) (w7 := w7) (v' := v') hlt)
          obtain ⟨col, Hcol⟩ : ∃ col, Hid (C[k] = col) := ⟨C[k], rfl⟩
          rw [Hcol.out] at x0 Hbad
          clear g2
          by_cases hneg : 0 ≤ col
          rotate_left
          · have hb := Hbad.out (by omega)
            have hn' : ¬ (0 : Int) ≤ col := hneg
            go_wp2
            go_roundw
            case rel => exact ⟨k + 1, false, rfl, by go_num, ⟨HP.out.bel, by omega, fun e => by (cases e), fun _ => hb⟩⟩
            case measure => simp [intOf]; omega
          by_cases hbig : col < (R.length : Int)
          rotate_left
          · have hb := Hbad.out (by omega)
            have hn' : ¬ col < (R.length : Int) := hbig
            go_wp2
            go_roundw
            case rel => exact ⟨k + 1, false, rfl, by go_num, ⟨HP.out.bel, by omega, fun e => by (cases e), fun _ => hb⟩⟩
            case measure => simp [intOf]; omega
          obtain ⟨q, rfl⟩ : ∃ q : Nat, col = q := ⟨col.toNat, by omega⟩
          have hq : q < R.length := by omega
          have hRk := HR1.out.below HP.out.bel
          rcases hRk with hRk | ⟨b3, o3, rfl, hb3, g3⟩
          · rw [hRk] at hq; simp at hq
          have g3 := g3 q hq
          have HPU2 : Hid (∀ (wa w7 : World) (v' : Value), Below wr.heap.size wr wa → w7.ownsRow w1.heap.size 47 3 v' (k + 1) ((pickV R (C.take k)).flatMap ValV.cells ++ (R[q]).cells) → wa.grownBy w7 u9.ownBlock → PkAt w1 w7 R C (k + 1) true v') := fun wa w7 v' k1 o1 g1 => by
            have e : C[k].toNat = q := by rw [Hcol.out]; simp
            refine HPU.out wa w7 v' (by rw [e]; exact hq) (by rw [Hcol.out]; omega) k1 ?_ g1
            simp only [e]
            exact o1
          clear HPU
          obtain ⟨v, Hv⟩ : ∃ v, Hid (R[q] = v) := ⟨R[q], rfl⟩
          rw [Hv.out] at g3 HPU2
          clear Hv Hcol Hbad
          obtain ⟨vk, vn, vS⟩ := v
          obtain ⟨y0, y1, y2⟩ := g3
          simp only at y0 y1 y2
          have hown := hidk (HP.out.yes rfl).2
          have KA : Below wr.heap.size wr (wr.alloc (.cells #[.int .i64 vk, .int .i64 vn, .string vS] 47)) := (Below.refl _ _).alloc (Nat.le_refl _) _
          have hown2 : Hid ((wr.alloc (.cells #[.int .i64 vk, .int .i64 vn, .string vS] 47)).ownsRow w1.heap.size 47 3 u9 k ((pickV R (C.take k)).flatMap ValV.cells)) := hown.out.alloc _
          have HNW : Hid (∀ j uu, (ValV.cells ⟨vk, vn, vS⟩)[j]? = some uu → (wr.alloc (.cells #[.int .i64 vk, .int .i64 vn, .string vS] 47)).cell? ((⟨wr.heap.size, 0, none⟩ : Addr).add j) = some uu) := World.news_of_block (heap_alloc_new wr _)
          have HON : Hid (∀ u ∈ ValV.cells ⟨vk, vn, vS⟩, u.oneCell' = true) := by intro u hu; simp [ValV.cells] at hu; rcases hu with rfl | rfl | rfl <;> rfl
          have hzz : w1.heap.size ≤ wr.heap.size := HP.out.bel.size
          clear HP hown
          go_wp2_with (at_builtin; refine wpList_append_own_at _ rfl _ _ 22 rfl w1.heap.size 47 i0 _ 3 32 Try.underlying22 hi hz0 hz1 hz2 rfl (by decide) u9 k ((pickV R (C.take k)).flatMap ValV.cells) rfl hown2.out ⟨wr.heap.size, 0, none⟩ 1 1 (ValV.cells ⟨vk, vn, vS⟩) rfl rfl HNW.out HON.out (by unfold maxLen; omega) (by omega) (by simp; omega) ?_; intro v' w7 hown7 hgr7 hnil7 hat7; obtain ⟨va7, vm7, vc7, rfl⟩ := kowns_val hown7; have HN7 := hidk (HPU2.out _ w7 _ KA hown7 hgr7))
          go_roundw
          case rel => exact ⟨k + 1, true, rfl, by go_num, by assumption⟩
          case measure => simp [intOf]; omega
        · obtain rfl : k = C.length := by omega
          have hi1 : ¬ (C.length : Int) < (C.length : Int) := by omega
          go_wp2
          go_meet
          case rel => exact ⟨true, rfl, HP⟩
  case rest =>
    obtain ⟨ok, rfl, HP⟩ := hcut
    have HB2 := hidk (below_chain HB1.out HP.out.bel)
    have HES2 := hidk ((HP.out.bel.block _ hz1w).trans HES1.out)
    have HV2 := hidk (HVp.out.below HP.out.bel)
    have hz2w : w.heap.size < wc.heap.size := Nat.lt_of_lt_of_le hz1w HP.out.bel.size
    generalize wc = W2 at *
    have e0 : W2.cell? ⟨w.heap.size, 0, none⟩ = some (.string xk) := by unfold World.cell?; simp [HES2.out]
    have e1 : W2.cell? ⟨w.heap.size, 1, none⟩ = some (.int .u32 xp) := by unfold World.cell?; simp [HES2.out]
    have e2 : W2.cell? ⟨w.heap.size, 2, none⟩ = some (.int .i64 xs) := by unfold World.cell?; simp [HES2.out]
    have e3 : W2.cell? ⟨w.heap.size, 3, none⟩ = some (.string yk) := by unfold World.cell?; simp [HES2.out]
    have e4 : W2.cell? ⟨w.heap.size, 4, none⟩ = some (.int .u32 yp) := by unfold World.cell?; simp [HES2.out]
    have e5 : W2.cell? ⟨w.heap.size, 5, none⟩ = some (.int .i64 ys) := by unfold World.cell?; simp [HES2.out]
    go_upto_region 10 with fail
    go_cut [12, 13] from 56 to 59 (fun v12 v13 wx => ∃ p q : Nat, v12 = .pointer (some ⟨p, 0, none⟩) ∧ v13 = .pointer (some ⟨q, 0, none⟩) ∧ Hid (Row3 wx p (.string xk) (.int .u32 xp) (.int .i64 xs) ∧ Row3 wx q (.string yk) (.int .u32 yp) (.int .i64 ys) ∧ Below W2.heap.size W2 wx))
    case first =>
      go_wp2_with fail
      go_region
      · go_wp2
        go_meet
        case rel => exact ⟨W2.heap.size, W2.heap.size + 1, rfl, rfl, two_new W2 _ _ _ _ _ _ _⟩
      · go_wp2
        go_meet
        case rel => exact ⟨W2.heap.size + 1, W2.heap.size, rfl, rfl, (two_new W2 _ _ _ _ _ _ _).2.1, (two_new W2 _ _ _ _ _ _ _).1, (two_new W2 _ _ _ _ _ _ _).2.2⟩
    case rest =>
      obtain ⟨p, q, rfl, rfl, HPQ⟩ := hcut
      generalize wc = W5 at *
      obtain ⟨p0, p1, p2, _, _, _⟩ := HPQ.out.1
      obtain ⟨q0, q1, q2, _, _, _⟩ := HPQ.out.2.1
      obtain ⟨Ec, HEc⟩ : ∃ Ec, Hid (or3 (scmpF xk yk) (kcmpF (xp : Int) (yp : Int)) (kcmpF xs ys) = Ec) := ⟨_, rfl⟩
      have HEc1 : Hid (Ec = 0 → xk = yk ∧ xp = yp ∧ xs = ys) := fun h => ent_zero (HEc.out.trans h)
      have HEc2 : Hid (Ec ≠ -1 → Ec ≠ 0 → Ec = 1) := fun h1 h2 => ent_one (HEc.out) h1 h2
      have HEc3 : Hid (xk = yk → xp = yp → xs = ys → Ec = 0) := fun h1 h2 h3 => by rw [← HEc.out, h1, h2, h3]; exact ent_same yk yp ys
      go_upto_region 12 with fail
      go_cut [98] from 60 to 97 (fun v98 wx => v98 = .bool (decide (Ec = -1)) ∧ wx = W5)
      case first =>
        clear HPQ HES2 HV2 HB2 HES1 HR1 HC1 HVp HP HE HM e0 e1 e2 e3 e4 e5
        rcases bless_total xk.data.toList yk.data.toList with hs | hs | hs
        · have hEc : Ec = -1 := by rw [← HEc.out]; unfold or3 scmpF; rw [kbless_toList, if_pos hs]; simp
          subst hEc
          rw [← kbless_toList] at hs
          go_wp2
          go_meet
          case rel => exact ⟨by first | rfl | trivial, by first | rfl | trivial⟩
        · have hk : xk = yk := Go.WideShapes.bytes_inj hs
          subst hk
          have hs' := bless_irrefl xk.data.toList
          have h0 : scmpF xk xk = 0 := by unfold scmpF; rw [kbless_toList, hs']; simp
          rw [h0] at HEc
          rw [← kbless_toList] at hs'
          have he : (xk.toList == xk.toList) = true := by simp
          clear hs h0
          rcases Nat.lt_trichotomy xp yp with hp | hp | hp
          · have hEc : Ec = -1 := by rw [← HEc.out]; unfold or3 kcmpF; rw [if_pos (show (xp : Int) < (yp : Int) by omega)]; simp
            subst hEc
            have hp' : (xp : Int) < (yp : Int) := by omega
            go_wp2
            go_meet
            case rel => exact ⟨by first | rfl | trivial, by first | rfl | trivial⟩
          · subst hp
            have h0 : kcmpF (xp : Int) (xp : Int) = 0 := by unfold kcmpF; simp
            rw [h0] at HEc
            clear h0
            rcases Int.lt_trichotomy xs ys with hn | hn | hn
            · have hEc : Ec = -1 := by rw [← HEc.out]; unfold or3 kcmpF; rw [if_pos hn]; simp
              subst hEc
              go_wp2
              go_meet
              case rel => exact ⟨by first | rfl | trivial, by first | rfl | trivial⟩
            · subst hn
              have hEc : Ec = 0 := by rw [← HEc.out]; unfold or3 kcmpF; simp
              subst hEc
              go_wp2
              go_meet
              case rel => exact ⟨by first | rfl | trivial, by first | rfl | trivial⟩
            · have hEc : Ec = 1 := by rw [← HEc.out]; unfold or3 kcmpF; rw [if_neg (show ¬ xs < ys by omega), if_pos hn]; simp
              subst hEc
              have h1 : ¬ xs < ys := by omega
              have h2 : (xs == ys) = false := by rw [beq_eq_false_iff_ne]; omega
              go_wp2
              go_meet
              case rel => exact ⟨by first | rfl | trivial, by first | rfl | trivial⟩
          · have hEc : Ec = 1 := by rw [← HEc.out]; unfold or3 kcmpF; rw [if_neg (show ¬ (xp : Int) < (yp : Int) by omega), if_pos (show (yp : Int) < (xp : Int) by omega)]; simp
            subst hEc
            have h1 : ¬ (xp : Int) < (yp : Int) := by omega
            have h2 : ((xp : Int) == (yp : Int)) = false := by rw [beq_eq_false_iff_ne]; omega
            go_wp2
            go_meet
            case rel => exact ⟨by first | rfl | trivial, by first | rfl | trivial⟩
        · have ha := bless_asymm hs
          have hk : ¬ xk = yk := fun e => by rw [e] at ha; exact ha.2 rfl
          have hEc : Ec = 1 := by rw [← HEc.out]; unfold or3 scmpF; rw [kbless_toList, ha.1, if_neg hk]; simp
          subst hEc
          have hq := ha.1
          rw [← kbless_toList] at hq
          have he := kstr_ne hk
          clear hs ha
          go_wp2
          go_meet
          case rel => exact ⟨by first | rfl | trivial, by first | rfl | trivial⟩
      case rest =>
       obtain ⟨rfl, hwc⟩ := hcut
       subst hwc
       generalize wc = W6 at *
       go_upto_if 98 with fail
       go_cut [14] from 98 to 101 (fun v14 wx => v14 = .int .i64 Ec ∧ wx = W6)
       case first =>
        clear HPQ HES2 HV2 HB2 HES1 HR1 HC1 HVp HP HE HM e0 e1 e2 e3 e4 e5
        by_cases hm : Ec = -1
        · subst hm
          go_wp2
          go_meet
          case rel => exact ⟨by first | rfl | trivial, by first | rfl | trivial⟩
        · have hd : decide (Ec = -1) = false := decide_eq_false hm
          by_cases hk : xk = yk
          · subst hk
            have he : (xk.toList == xk.toList) = true := by simp
            by_cases hp : xp = yp
            · subst hp
              by_cases hn : xs = ys
              · subst hn
                obtain rfl := HEc3.out rfl rfl rfl
                go_wp2
                go_meet
                case rel => exact ⟨by first | rfl | trivial, by first | rfl | trivial⟩
              · obtain rfl := HEc2.out hm (fun h => hn (HEc1.out h).2.2)
                have h2 : (xs == ys) = false := by rw [beq_eq_false_iff_ne]; exact hn
                go_wp2
                go_meet
                case rel => exact ⟨by first | rfl | trivial, by first | rfl | trivial⟩
            · obtain rfl := HEc2.out hm (fun h => hp (HEc1.out h).2.1)
              have h2 : ((xp : Int) == (yp : Int)) = false := by rw [beq_eq_false_iff_ne]; omega
              go_wp2
              go_meet
              case rel => exact ⟨by first | rfl | trivial, by first | rfl | trivial⟩
          · obtain rfl := HEc2.out hm (fun h => hk (HEc1.out h).1)
            have he := kstr_ne hk
            go_wp2
            go_meet
            case rel => exact ⟨by first | rfl | trivial, by first | rfl | trivial⟩
       case rest =>
        obtain ⟨rfl, hwc⟩ := hcut
        subst hwc
        have hpz : p < wc.heap.size := World.block_lt_of_cell? _ _ p0
        have hqz : q < wc.heap.size := World.block_lt_of_cell? _ _ q0
        have HEn : Hid (∀ wx : World, Calls Try.prog 13 #[.agg #[.string xk, .int .u32 xp, .int .i64 xs], .agg #[.string yk, .int .u32 yp, .int .i64 ys]] wx fun e w' => e = .returned (.int .i64 Ec) ∧ Below wx.heap.size wx w') := fun wx => by
          have := entries_any xk yk xp yp xs ys wx
          rw [HEc.out] at this
          exact this
        have HB5 := hidk (below_chain HB2.out HPQ.out.2.2)
        have hEE : (Ec != Ec) = false := by simp
        go_wp2_with fail
        refine (kawake_any _).mono ?_
        rintro e w6 ⟨rfl, b6⟩
        have r0 := (b6.cell (p := ⟨p, 0, none⟩) hpz).trans p0
        have r1 := (b6.cell (p := ⟨p, 1, none⟩) hpz).trans p1
        have r2 := (b6.cell (p := ⟨p, 2, none⟩) hpz).trans p2
        have s0 := (b6.cell (p := ⟨q, 0, none⟩) hqz).trans q0
        have s1 := (b6.cell (p := ⟨q, 1, none⟩) hqz).trans q1
        have s2 := (b6.cell (p := ⟨q, 2, none⟩) hqz).trans q2
        go_wp2_with fail
        refine (HEn.out _).mono ?_
        rintro e w7 ⟨rfl, b7⟩
        have HB7 := hidk (below_chain (below_chain HB5.out b6) b7)
        have HB27 := hidk (below_chain (below_chain HPQ.out.2.2 b6) b7)
        clear HPQ b6 b7 r0 r1 r2 s0 s1 s2 p0 p1 p2 q0 q1 q2 HEn HB5
        cases ok with
        | false =>
          have hall := HP.out.no rfl
          have hE : E = 111 := by rw [← HE.out]; unfold pickE; rw [hall]; rfl
          have hM : M = [] := by rw [← HM.out]; unfold pickL; rw [hall]; rfl
          subst hE
          subst hM
          go_wp2
          go_ret
          exact ⟨rfl, HB7.out⟩
        | true =>
          obtain ⟨hall, hown⟩ := HP.out.yes rfl
          rw [List.take_length] at hall hown
          have hE : E = 0 := by rw [← HE.out]; unfold pickE; rw [hall]; rfl
          have hM : M = pickV R C := by rw [← HM.out]; unfold pickL; rw [hall]; rfl
          rw [← hM] at hown
          have hMl : M.length = C.length := by rw [hM, pickV_length]
          rw [← hMl] at hown
          have hown7 := kowns_same hown (fun g hg => HB27.out.block g (World.ownsRow.lt hown g hg).2)
          obtain ⟨aw, cw, hv, hVw⟩ := owns_vals hown7
          have HVw := hidk hVw
          have HMl := hidk hMl
          subst hE
          subst hv
          clear hown hown7 hVw hall hM hMl HE HM
          have HV7 := hidk (HV2.out.below HB27.out)
          go_wp2_with fail
          refine (ref_any aw cw M w7 HVw.out (by rw [HMl.out]; omega)).mono ?_
          rintro e w8 ⟨a8, c8, rfl, HA8, b8⟩
          go_wp2_with fail
          refine (same_yes ap a8 cp c8 M w8 (HV7.out.below b8) HA8.out (by rw [HMl.out]; omega)).mono ?_
          rintro e w9 ⟨rfl, b9⟩
          go_wp2
          go_ret
          exact ⟨rfl, below_chain (below_chain HB7.out b8) b9⟩

end Go.Proofs.Ytgammhmgdafpkaa
