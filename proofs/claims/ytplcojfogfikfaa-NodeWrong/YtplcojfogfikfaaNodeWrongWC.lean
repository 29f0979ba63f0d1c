/-
  The walk of NodeWrong.
-/
import Derived.Test.YtplcojfogfikfaaNodeAwakeC
import Derived.Lib.QuietBelow
namespace Go.Proofs.Ytplcojfogfikfaa
open Go.RowKit Go.Sort
set_option linter.unusedVariables false
set_option linter.unusedSimpArgs false

theorem nputItem_any (p : SheetV) (a : Option Addr) (c : Nat) (x : ItemV) (w : World) (hp : p.Ok w a) (hl : p.slots.length ≤ 7036874417766) (hx : x.e.page < 4294967296) (hk : x.e.key.size ≤ 140737488351232) :
    Calls Try.prog 19 #[p.val a c, x.val] w fun r w' => ∃ (O : OpV) (E : Int), r = .returned (.tuple #[O.val, .int .i64 E]) ∧ (leafB p = false → E = 120) ∧ Below w.heap.size w w' := by
  cases hB : leafB p with
  | false => exact (putItem_no p a c x w hp hl hB).mono fun r w' h => ⟨_, _, h.1, fun _ => rfl, h.2⟩
  | true =>
    cases hf : (findF (leafL p) x.e).2 with
    | true => exact (putItem_twice p a c x w hp hl hB hf).mono fun r w' h => ⟨_, _, h.1, fun q => absurd q (by simp), h.2⟩
    | false => exact (putItem_ok p a c x w hp hl hx hk hB hf).mono fun r w' h => ⟨_, _, h.1, fun q => absurd q (by simp), h.2⟩

theorem nturn_any (p : SheetV) (a : Option Addr) (c : Nat) (e : EntV) (v : Bool) (w : World) (hp : p.Ok w a) (hl : p.slots.length ≤ 7036874417766) (hx : e.page < 4294967296) (hk : e.key.size ≤ 140737488351232) :
    Calls Try.prog 16 #[p.val a c, e.val, .bool v] w fun r w' => ∃ (O : OpV) (E : Int), r = .returned (.tuple #[O.val, .int .i64 E]) ∧ (leafB p = false → E = 120) ∧ Below w.heap.size w w' := by
  cases hB : leafB p with
  | false => exact (turn_no p a c e v w hp hl hB).mono fun r w' h => ⟨_, _, h.1, fun _ => rfl, h.2⟩
  | true =>
    cases hf : (findF (leafL p) e).2 with
    | false => exact (turn_none p a c e v w hp hl hB hf).mono fun r w' h => ⟨_, _, h.1, fun q => absurd q (by simp), h.2⟩
    | true => exact (turn_ok p a c e v w hp hl hx hk hB hf).mono fun r w' h => ⟨_, _, h.1, fun q => absurd q (by simp), h.2⟩

theorem nsetFrom_any (p : SheetV) (a : Option Addr) (c : Nat) (e : EntV) (w : World) (hp : p.Ok w a) (hl : p.slots.length ≤ 7036874417766) (hx : e.page < 4294967296) (hk : e.key.size ≤ 140737488351232) :
    Calls Try.prog 27 #[p.val a c, .int .i64 0, e.val] w fun r w' => ∃ (O : OpV) (E : Int), r = .returned (.tuple #[O.val, .int .i64 E]) ∧ (innerB p = false → E = 120) ∧ Below w.heap.size w w' := by
  cases hB : innerB p with
  | false => exact (setFrom_no p a c 0 e w hp hl hB).mono fun r w' h => ⟨_, _, h.1, fun _ => rfl, h.2⟩
  | true =>
    by_cases h0 : p.slots.length = 0
    · exact (setFrom_none p a c 0 e w hp hl hB (.inr (by omega))).mono fun r w' h => ⟨_, _, h.1, fun q => absurd q (by simp), h.2⟩
    · have hi : 0 < (innerL p).length := by rw [innerL_length]; omega
      have hq : (innerL p)[0].page < 4294967296 := by
        have hs0 : 0 < p.slots.length := by omega
        have h1 : (innerL p)[0] = childOf p.slots[0] := List.getElem_map _
        rw [h1]
        have h2 : childB p.slots[0] = true := by
          unfold innerB at hB
          rw [Bool.and_eq_true] at hB
          exact List.all_eq_true.1 hB.2 _ (List.getElem_mem hs0)
        unfold childB at h2
        rw [decide_eq_true_eq] at h2
        exact (childOf_ok p.slots[0] h2 (Nat.le_trans (hp.slots _ (List.getElem_mem hs0)) (by unfold maxLen; omega))).1
      exact (setFrom_ok p a c 0 e w hp hl hx hk hB hi hq).mono fun r w' h => ⟨_, _, h.1, fun q => absurd q (by simp), h.2⟩

theorem first_byte (s : ByteArray) (h : 0 < s.size) : le (part s 0 1) = (s[0]'h).toNat := by
  have h1 : part s 0 1 = part s 0 0 ++ [s[0 + 0]] := part_snoc (n := 0) (by omega)
  rw [h1]
  simp [part, le]

/-- Where NodeWrong stands: its two boxes. -/
structure WrAt (w wx : World) (p : SheetV) (a : Option Addr) (c : Nat) (e : EntV) : Prop where
  page : RowV wx w.heap.size 5 (five (.int .u32 p.num) (.int .u64 p.lsn) (.int .i64 p.kind) (.string p.head) (.slice a p.slots.length c))
  ent : EBox wx (w.heap.size + 1) e
  bel : Below w.heap.size w wx
  lt : w.heap.size + 2 ≤ wx.heap.size

theorem WrAt.below {w wx wy : World} {p : SheetV} {a : Option Addr} {c : Nat} {e : EntV} (h : WrAt w wx p a c e) (k : Below wx.heap.size wx wy) : WrAt w wy p a c e :=
  ⟨h.page.below k (by have := h.lt; omega), h.ent.below k h.ent.lt, below_chain h.bel k, Nat.le_trans h.lt k.size⟩

theorem WrAt.alloc {w wx : World} {p : SheetV} {a : Option Addr} {c : Nat} {e : EntV} (h : WrAt w wx p a c e) (o : Obj) : WrAt w (wx.alloc o) p a c e := h.below ((Below.refl _ _).alloc (Nat.le_refl _) _)

theorem WrAt.new (w : World) (p : SheetV) (a : Option Addr) (c : Nat) (e : EntV) : WrAt w ((w.alloc (sheetObj p a c)).alloc (.cells #[.string e.key, .int .u32 e.page, .int .i64 e.slot] 43)) p a c e := by
  refine ⟨(RowV.five_new w _ _ _ _ _ _).below ((Below.refl _ _).alloc (Nat.le_refl _) _) (by simp), ?_, ((Below.refl _ _).alloc (Nat.le_refl _) _).alloc (by simp) _, by simp⟩
  have := EBox.new (w.alloc (sheetObj p a c)) e
  simpa using this

set_option maxHeartbeats 6400000 in
set_option maxRecDepth 20000 in
theorem wrong_walk (p : SheetV) (a : Option Addr) (c : Nat) (e : EntV) (w : World) (hp : p.Ok w a) (hl : p.slots.length ≤ 7036874417766) (hx : e.page < 4294967296) (hk : e.key.size ≤ 140737488351232) :
    Calls Try.prog 6 #[p.val a c, e.val] w fun r w' => r = .returned (.bool true) ∧ Below w.heap.size w w' := by
  have HAW : Hid (∀ wx, Calls Try.prog 11 #[] wx fun e w' => e = .returned (.bool true) ∧ Below wx.heap.size wx w') := fun wx => nawake_any wx
  have HNX : Hid (∀ wx, Calls Try.prog 12 #[p.val a c] wx fun e w' => e = .returned (.int .u32 (nextF p)) ∧ Below wx.heap.size wx w') := fun wx => next_any p a c wx
  have HN0 : Hid (leafH p = false → nextF p = 0) := fun h => by unfold nextF; rw [h]; rfl
  have HLE : Hid (∀ wx, Below w.heap.size w wx → Calls Try.prog 32 #[p.val a c] wx fun x w' => Below wx.heap.size wx w' ∧
      (leafB p = true → ∃ a' c', x = .returned (.tuple #[.slice a' p.slots.length c', .int .i64 0]) ∧ RowsFrom wx.heap.size 4 ItemV.enc w' a' (p.slots.map itemOf)) ∧
      (leafB p = false → x = .returned (.tuple #[.slice none 0 0, .int .i64 120]))) := fun wx hb => leaf_any p a c wx (hp.below hb) hl
  have HIN : Hid (∀ wx, Below w.heap.size w wx → Calls Try.prog 26 #[p.val a c] wx fun x w' => Below wx.heap.size wx w' ∧
      (innerB p = true → ∃ a' c', x = .returned (.tuple #[.slice a' p.slots.length c', .int .i64 0]) ∧ RowsFrom wx.heap.size 4 ChildV.enc w' a' (p.slots.map childOf)) ∧
      (innerB p = false → x = .returned (.tuple #[.slice none 0 0, .int .i64 120]))) := fun wx hb => inner_any p a c wx (hp.below hb) hl
  have HPU : Hid (∀ wx, Below w.heap.size w wx → Calls Try.prog 19 #[p.val a c, (ItemV.mk e false).val] wx fun r w' => ∃ (O : OpV) (E : Int), r = .returned (.tuple #[O.val, .int .i64 E]) ∧ (leafB p = false → E = 120) ∧ Below wx.heap.size wx w') := fun wx hb => nputItem_any p a c (ItemV.mk e false) wx (hp.below hb) hl hx hk
  have HTU : Hid (∀ wx, Below w.heap.size w wx → Calls Try.prog 16 #[p.val a c, e.val, .bool true] wx fun r w' => ∃ (O : OpV) (E : Int), r = .returned (.tuple #[O.val, .int .i64 E]) ∧ (leafB p = false → E = 120) ∧ Below wx.heap.size wx w') := fun wx hb => nturn_any p a c e true wx (hp.below hb) hl hx hk
  have HSE : Hid (∀ wx, Below w.heap.size w wx → Calls Try.prog 27 #[p.val a c, .int .i64 0, e.val] wx fun r w' => ∃ (O : OpV) (E : Int), r = .returned (.tuple #[O.val, .int .i64 E]) ∧ (innerB p = false → E = 120) ∧ Below wx.heap.size wx w') := fun wx hb => nsetFrom_any p a c e wx (hp.below hb) hl hx hk
  have HLB : Hid (leafB p = (leafH p && p.slots.all itemB)) := rfl
  have HIB : Hid (innerB p = (innerH p && p.slots.all childB)) := rfl
  have HLH : Hid (leafH p = (decide (p.kind = 3) && decide (p.head.size = 4))) := rfl
  have HIH : Hid (innerH p = (decide (p.kind = 4) && decide (p.head.size = 1))) := rfl
  have hsl := hidn hp.slots
  have hm := hidn hp.mem
  have hlen := hp.len
  have hhd := hp.head
  obtain ⟨W, HW⟩ : ∃ W, Hid (W = (w.alloc (sheetObj p a c)).alloc (.cells #[.string e.key, .int .u32 e.page, .int .i64 e.slot] 43)) := ⟨_, rfl⟩
  have hW : WrAt w W p a c e := by rw [HW.out]; exact WrAt.new _ _ _ _ _
  clear hp
  obtain ⟨LB, hLB⟩ : ∃ LB, leafB p = LB := ⟨_, rfl⟩
  obtain ⟨IB, hIB⟩ : ∃ IB, innerB p = IB := ⟨_, rfl⟩
  obtain ⟨LH, hLH⟩ : ∃ LH, leafH p = LH := ⟨_, rfl⟩
  obtain ⟨IH, hIH⟩ : ∃ IH, innerH p = IH := ⟨_, rfl⟩
  obtain ⟨NX, hNX⟩ : ∃ NX, nextF p = NX := ⟨_, rfl⟩
  simp only [hLB, hIB, hLH, hIH, hNX] at HNX HN0 HLE HIN HPU HTU HSE HLB HIB HLH HIH
  clear hLB hIB hLH hIH hNX
  have hLI : Hid (¬ (LH = true ∧ IH = true)) := fun h => by
    rw [HLH.out, HIH.out] at h
    simp only [Bool.and_eq_true, decide_eq_true_eq] at h
    omega
  obtain ⟨num, lsn, kind, hd, L⟩ := p
  simp only [SheetV.val, ItemV.val, EntV.val, OpV.val] at *
  obtain ⟨x0, x1, x2, x3, x4⟩ := hW.page.cells5
  go_enter Try.func6, Try.ntmps6
  go_upto_region 1 with fail
  rw [← HW.out]
  clear HW
  have HK3a : Hid (kind ≠ 3 → LH = false) := fun h => by rw [HLH.out]; simp [h]
  go_cut [5] from 18 to 26 (fun v wx => v = .bool LH ∧ wx = W)
  case first =>
    clear HAW HNX HLE HIN HPU HTU HSE HLB HIB
    by_cases h3 : kind = 3
    · have e3 : (kind == 3) = true := by rw [beq_iff_eq]; exact h3
      have hv := hidn (show decide ((hd.size : Int) = 4) = LH by rw [HLH.out]; simp [h3] <;> omega)
      clear h3
      go_wp2
      go_meet
      case rel => exact ⟨congrArg Value.bool (by first | exact hv.out | (rw [← hv.out]; simp) | (rw [← hv.out]; rfl)), rfl⟩
    · have e3 : (kind == 3) = false := by rw [beq_eq_false_iff_ne]; exact h3
      have hv := hidn (show false = LH by rw [HLH.out]; simp [h3])
      clear h3
      go_wp2
      go_meet
      case rel => exact ⟨congrArg Value.bool hv.out, rfl⟩
  obtain ⟨rfl, hwc⟩ := hcut
  rw [hwc]
  clear hwc
  go_upto_region 2 with fail
  go_cut [6] from 27 to 35 (fun v wx => v = .bool IH ∧ wx = W)
  case first =>
    clear HAW HNX HLE HIN HPU HTU HSE HLB HIB
    by_cases h3 : kind = 4
    · have e3 : (kind == 4) = true := by rw [beq_iff_eq]; exact h3
      have hv := hidn (show decide ((hd.size : Int) = 1) = IH by rw [HIH.out]; simp [h3] <;> omega)
      clear h3
      go_wp2
      go_meet
      case rel => exact ⟨congrArg Value.bool (by first | exact hv.out | (rw [← hv.out]; simp) | (rw [← hv.out]; rfl)), rfl⟩
    · have e3 : (kind == 4) = false := by rw [beq_eq_false_iff_ne]; exact h3
      have hv := hidn (show false = IH by rw [HIH.out]; simp [h3])
      clear h3
      go_wp2
      go_meet
      case rel => exact ⟨congrArg Value.bool hv.out, rfl⟩
  obtain ⟨rfl, hwc⟩ := hcut
  rw [hwc]
  clear hwc
  clear HLH HIH
  go_upto_block 0 with fail
  go_cut [5, 6] from 36 to 71 (fun v5 v6 wx => v5 = .bool LB ∧ v6 = .bool IB ∧ wx = W)
  case first =>
    clear HAW HNX HLE HIN HPU HTU HSE
    go_wp2_with fail
    go_loop [5, 6, 7] (fun v5 v6 i => ∃ k : Nat, k ≤ L.length ∧ i = .int .i64 k ∧ v5 = .bool (LH && (L.take k).all itemB) ∧ v6 = .bool (IH && (L.take k).all childB)) (fun _ _ i => L.length - (intOf i).toNat)
    case atStart => exact ⟨0, by omega, rfl, by simp, by simp⟩
    case round =>
      obtain ⟨k, hk, rfl, rfl, rfl⟩ := hrel
      by_cases hlt : k < L.length
      · obtain ⟨bb, o, rfl, hb, hck⟩ : ∃ b o, a = some ⟨b, o, none⟩ ∧ b < w.heap.size ∧ W.cell? ⟨b, o + k, none⟩ = some (.string L[k]) := by
          rcases hm.out with hm | ⟨b, o, e, hb, hc⟩
          · rw [hm] at hlt; simp at hlt
          · exact ⟨b, o, e, hb, (hW.bel.cell (p := ⟨b, o + k, none⟩) hb).trans (hc k hlt)⟩
        have hsk := hsl.out L[k] (List.getElem_mem hlt)
        have HA := hidn (show (LH && (L.take (k + 1)).all itemB) = ((LH && (L.take k).all itemB) && itemB L[k]) by rw [all_take_succ itemB L k hlt, Bool.and_assoc])
        have HC := hidn (show (IH && (L.take (k + 1)).all childB) = ((IH && (L.take k).all childB) && childB L[k]) by rw [all_take_succ childB L k hlt, Bool.and_assoc])
        have HIt : Hid (itemB L[k] = (decide (7 ≤ L[k].size) && decide (le (part L[k] 0 1) ≤ 1))) := rfl
        have HCh : Hid (childB L[k] = decide (10 ≤ L[k].size)) := rfl
        have HFB := hidn (first_byte L[k])
        have hi0 : (0 : Int) ≤ (k : Int) := by omega
        have hi1 : (k : Int) < (L.length : Int) := by omega
        generalize L[k] = x at *
        generalize (LH && (L.take k).all itemB) = A at *
        generalize (IH && (L.take k).all childB) = B at *
        go_upto_region 6 with fail
        go_cut [5] from 43 to 61 (fun v wx => v = .bool (A && itemB x) ∧ wx = W)
        case first =>
          cases A with
          | false =>
            go_wp2
            go_meet
            case rel => exact ⟨rfl, rfl⟩
          | true =>
            by_cases h7 : 7 ≤ x.size
            · have q0 : 0 < x.size := by omega
              have hv := hidn (show (true && itemB x) = decide (((x[0]'q0).toNat : Int) ≤ 1) by rw [HIt.out, HFB.out q0]; simp [h7] <;> omega)
              have h7' : (7 : Int) ≤ (x.size : Int) := by omega
              go_wp2
              go_meet
              case rel => exact ⟨congrArg Value.bool (by first | (rw [hv.out]; done) | (rw [hv.out]; rfl) | (rw [hv.out]; simp)), rfl⟩
            · have h7' : ¬ (7 : Int) ≤ (x.size : Int) := by omega
              have hv := hidn (show (true && itemB x) = false by rw [HIt.out]; simp [h7])
              go_wp2
              go_meet
              case rel => exact ⟨congrArg Value.bool hv.out.symm, rfl⟩
        obtain ⟨rfl, hwc⟩ := hcut
        rw [hwc]
        clear hwc
        cases B with
        | false =>
          go_wp2
          go_round
          case rel => exact ⟨k + 1, by omega, by go_num, by rw [HA.out], by rw [HC.out]; rfl⟩
          case measure => simp [intOf]; omega
        | true =>
          have hv := hidn (show (true && childB x) = decide ((10 : Int) ≤ (x.size : Int)) by rw [HCh.out]; simp <;> omega)
          go_wp2
          go_round
          case rel => exact ⟨k + 1, by omega, by go_num, by rw [HA.out], by rw [HC.out, hv.out]⟩
          case measure => simp [intOf]; omega
      · obtain rfl : k = L.length := by omega
        rw [List.take_length, ← HLB.out, ← HIB.out]
        go_wp2
        go_meet
        case rel => exact ⟨rfl, rfl, rfl⟩
  obtain ⟨rfl, rfl, hwc⟩ := hcut
  rw [hwc]
  clear hwc
  have hLI2 : LB = true → IB = true → False := fun h1 h2 => by
    rw [HLB.out] at h1
    rw [HIB.out] at h2
    rw [Bool.and_eq_true] at h1 h2
    exact hLI.out ⟨h1.1, h2.1⟩
  have HNL : Hid (LH = false → LB = false) := fun h => by rw [HLB.out, h]; rfl
  have HK3 : Hid (kind ≠ 3 → NX = 0) := fun h => HN0.out (HK3a.out h)
  clear HLB HIB hLI
  cases LB with
  | true =>
    cases IB with
    | true => exact (hLI2 (by first | trivial | rfl) (by first | trivial | rfl)).elim
    | false =>
      go_wp2_with fail
      refine (HLE.out _ hW.bel).mono ?_
      rintro r w1 ⟨b1, hy1, hn1⟩
      obtain ⟨a1, c1, rfl, hr1⟩ := hy1 (by first | trivial | rfl)
      clear hy1 hn1 hr1
      have h1 := hW.below b1
      clear hW x0 x1 x2 x3 x4 HLE b1
      obtain ⟨x0, x1, x2, x3, x4⟩ := h1.page.cells5
      go_wp2_with fail
      refine (HIN.out _ h1.bel).mono ?_
      rintro r w2 ⟨b2, hy2, hn2⟩
      obtain rfl := hn2 (by first | trivial | rfl)
      clear hy2 hn2
      have h2 := h1.below b2
      clear h1 x0 x1 x2 x3 x4 HIN b2
      obtain ⟨x0, x1, x2, x3, x4⟩ := h2.page.cells5
      go_wp2_with fail
      refine (HAW.out _).mono ?_
      rintro r w3 ⟨rfl, b3⟩
      have h3 := h2.below b3
      clear h2 x0 x1 x2 x3 x4 HAW b3
      obtain ⟨x0, x1, x2, x3, x4⟩ := h3.page.cells5
      obtain ⟨y0, y1, y2, yl⟩ := h3.ent
      go_wp2_with fail
      refine (HPU.out _ h3.bel).mono ?_
      rintro r w4 ⟨O4, E4, rfl, hE4, b4⟩
      have h4 := h3.below b4
      obtain ⟨W4, HW4⟩ : ∃ W, Hid (W = w4.alloc (.cells #[.int .i64 O4.kind, .int .i64 O4.at', .string O4.S, .string O4.old] 35)) := ⟨_, rfl⟩
      have h5 : WrAt w W4 ⟨num, lsn, kind, hd, L⟩ a c e := by rw [HW4.out]; exact h4.alloc _
      clear h3 x0 x1 x2 x3 x4 y0 y1 y2 yl HPU b4
      obtain ⟨x0, x1, x2, x3, x4⟩ := h5.page.cells5
      obtain ⟨y0, y1, y2, yl⟩ := h5.ent
      rw [HW4.out] at x0 x1 x2 x3 x4 y0 y1 y2
      go_wp2_with fail
      rw [← HW4.out]
      refine (HTU.out _ h5.bel).mono ?_
      rintro r w6 ⟨O6, E6, rfl, hE6, b6⟩
      have h6 := h5.below b6
      obtain ⟨W6, HW6⟩ : ∃ W, Hid (W = w6.alloc (.cells #[.int .i64 O6.kind, .int .i64 O6.at', .string O6.S, .string O6.old] 35)) := ⟨_, rfl⟩
      have h7 : WrAt w W6 ⟨num, lsn, kind, hd, L⟩ a c e := by rw [HW6.out]; exact h6.alloc _
      clear HW4 h4 h5 x0 x1 x2 x3 x4 y0 y1 y2 yl HTU b6
      obtain ⟨x0, x1, x2, x3, x4⟩ := h7.page.cells5
      obtain ⟨y0, y1, y2, yl⟩ := h7.ent
      rw [HW6.out] at x0 x1 x2 x3 x4 y0 y1 y2
      go_wp2_with fail
      rw [← HW6.out]
      refine (HSE.out _ h7.bel).mono ?_
      rintro r w8 ⟨O8, E8, rfl, hE8, b8⟩
      have h8 := h7.below b8
      obtain ⟨W8, HW8⟩ : ∃ W, Hid (W = w8.alloc (.cells #[.int .i64 O8.kind, .int .i64 O8.at', .string O8.S, .string O8.old] 35)) := ⟨_, rfl⟩
      have h9 : WrAt w W8 ⟨num, lsn, kind, hd, L⟩ a c e := by rw [HW8.out]; exact h8.alloc _
      clear HW6 h6 h7 x0 x1 x2 x3 x4 y0 y1 y2 yl HSE b8
      obtain rfl := hE8 (by first | trivial | rfl)
      clear hE4 hE6 hE8
      obtain ⟨x0, x1, x2, x3, x4⟩ := h9.page.cells5
      rw [HW8.out] at x0 x1 x2 x3 x4
      by_cases k3 : kind = 3
      · have e3 : (kind == 3) = true := by rw [beq_iff_eq]; exact k3
        clear k3 HK3
        go_wp2
        go_ret
        exact ⟨rfl, by have := h9.bel; rw [HW8.out] at this; exact this⟩
      · have e3 : (kind == 3) = false := by rw [beq_eq_false_iff_ne]; exact k3
        have hN := HK3.out k3
        subst hN
        clear k3 HK3
        go_wp2_with fail
        rw [← HW8.out]
        refine (HNX.out _).mono ?_
        rintro r w10 ⟨rfl, b10⟩
        have B10 := hidn (below_chain h9.bel b10)
        go_wp2
        go_ret
        exact ⟨rfl, B10.out⟩
  | false =>
    cases IB with
    | true =>
      go_wp2_with fail
      refine (HLE.out _ hW.bel).mono ?_
      rintro r w1 ⟨b1, hy1, hn1⟩
      obtain rfl := hn1 (by first | trivial | rfl)
      clear hy1 hn1
      have h1 := hW.below b1
      clear hW x0 x1 x2 x3 x4 HLE b1
      obtain ⟨x0, x1, x2, x3, x4⟩ := h1.page.cells5
      go_wp2_with fail
      refine (HIN.out _ h1.bel).mono ?_
      rintro r w2 ⟨b2, hy2, hn2⟩
      obtain ⟨a2, c2, rfl, hr2⟩ := hy2 (by first | trivial | rfl)
      clear hy2 hn2 hr2
      have h2 := h1.below b2
      clear h1 x0 x1 x2 x3 x4 HIN b2
      obtain ⟨x0, x1, x2, x3, x4⟩ := h2.page.cells5
      go_wp2_with fail
      refine (HAW.out _).mono ?_
      rintro r w3 ⟨rfl, b3⟩
      have h3 := h2.below b3
      clear h2 x0 x1 x2 x3 x4 HAW b3
      obtain ⟨x0, x1, x2, x3, x4⟩ := h3.page.cells5
      obtain ⟨y0, y1, y2, yl⟩ := h3.ent
      go_wp2_with fail
      refine (HPU.out _ h3.bel).mono ?_
      rintro r w4 ⟨O4, E4, rfl, hE4, b4⟩
      have h4 := h3.below b4
      obtain ⟨W4, HW4⟩ : ∃ W, Hid (W = w4.alloc (.cells #[.int .i64 O4.kind, .int .i64 O4.at', .string O4.S, .string O4.old] 35)) := ⟨_, rfl⟩
      have h5 : WrAt w W4 ⟨num, lsn, kind, hd, L⟩ a c e := by rw [HW4.out]; exact h4.alloc _
      clear h3 x0 x1 x2 x3 x4 y0 y1 y2 yl HPU b4
      obtain ⟨x0, x1, x2, x3, x4⟩ := h5.page.cells5
      obtain ⟨y0, y1, y2, yl⟩ := h5.ent
      rw [HW4.out] at x0 x1 x2 x3 x4 y0 y1 y2
      go_wp2_with fail
      rw [← HW4.out]
      refine (HTU.out _ h5.bel).mono ?_
      rintro r w6 ⟨O6, E6, rfl, hE6, b6⟩
      have h6 := h5.below b6
      obtain ⟨W6, HW6⟩ : ∃ W, Hid (W = w6.alloc (.cells #[.int .i64 O6.kind, .int .i64 O6.at', .string O6.S, .string O6.old] 35)) := ⟨_, rfl⟩
      have h7 : WrAt w W6 ⟨num, lsn, kind, hd, L⟩ a c e := by rw [HW6.out]; exact h6.alloc _
      clear HW4 h4 h5 x0 x1 x2 x3 x4 y0 y1 y2 yl HTU b6
      obtain ⟨x0, x1, x2, x3, x4⟩ := h7.page.cells5
      obtain ⟨y0, y1, y2, yl⟩ := h7.ent
      rw [HW6.out] at x0 x1 x2 x3 x4 y0 y1 y2
      go_wp2_with fail
      rw [← HW6.out]
      refine (HSE.out _ h7.bel).mono ?_
      rintro r w8 ⟨O8, E8, rfl, hE8, b8⟩
      have h8 := h7.below b8
      obtain ⟨W8, HW8⟩ : ∃ W, Hid (W = w8.alloc (.cells #[.int .i64 O8.kind, .int .i64 O8.at', .string O8.S, .string O8.old] 35)) := ⟨_, rfl⟩
      have h9 : WrAt w W8 ⟨num, lsn, kind, hd, L⟩ a c e := by rw [HW8.out]; exact h8.alloc _
      clear HW6 h6 h7 x0 x1 x2 x3 x4 y0 y1 y2 yl HSE b8
      obtain rfl := hE4 (by first | trivial | rfl)
      obtain rfl := hE6 (by first | trivial | rfl)
      clear hE4 hE6 hE8
      obtain ⟨x0, x1, x2, x3, x4⟩ := h9.page.cells5
      rw [HW8.out] at x0 x1 x2 x3 x4
      by_cases k3 : kind = 3
      · have e3 : (kind == 3) = true := by rw [beq_iff_eq]; exact k3
        clear k3 HK3
        go_wp2
        go_ret
        exact ⟨rfl, by have := h9.bel; rw [HW8.out] at this; exact this⟩
      · have e3 : (kind == 3) = false := by rw [beq_eq_false_iff_ne]; exact k3
        have hN := HK3.out k3
        subst hN
        clear k3 HK3
        go_wp2_with fail
        rw [← HW8.out]
        refine (HNX.out _).mono ?_
        rintro r w10 ⟨rfl, b10⟩
        have B10 := hidn (below_chain h9.bel b10)
        go_wp2
        go_ret
        exact ⟨rfl, B10.out⟩
    | false =>
      go_wp2_with fail
      refine (HLE.out _ hW.bel).mono ?_
      rintro r w1 ⟨b1, hy1, hn1⟩
      obtain rfl := hn1 (by first | trivial | rfl)
      clear hy1 hn1
      have h1 := hW.below b1
      clear hW x0 x1 x2 x3 x4 HLE b1
      obtain ⟨x0, x1, x2, x3, x4⟩ := h1.page.cells5
      go_wp2_with fail
      refine (HIN.out _ h1.bel).mono ?_
      rintro r w2 ⟨b2, hy2, hn2⟩
      obtain rfl := hn2 (by first | trivial | rfl)
      clear hy2 hn2
      have h2 := h1.below b2
      clear h1 x0 x1 x2 x3 x4 HIN b2
      obtain ⟨x0, x1, x2, x3, x4⟩ := h2.page.cells5
      go_wp2_with fail
      refine (HAW.out _).mono ?_
      rintro r w3 ⟨rfl, b3⟩
      have h3 := h2.below b3
      clear h2 x0 x1 x2 x3 x4 HAW b3
      obtain ⟨x0, x1, x2, x3, x4⟩ := h3.page.cells5
      obtain ⟨y0, y1, y2, yl⟩ := h3.ent
      go_wp2_with fail
      refine (HPU.out _ h3.bel).mono ?_
      rintro r w4 ⟨O4, E4, rfl, hE4, b4⟩
      have h4 := h3.below b4
      obtain ⟨W4, HW4⟩ : ∃ W, Hid (W = w4.alloc (.cells #[.int .i64 O4.kind, .int .i64 O4.at', .string O4.S, .string O4.old] 35)) := ⟨_, rfl⟩
      have h5 : WrAt w W4 ⟨num, lsn, kind, hd, L⟩ a c e := by rw [HW4.out]; exact h4.alloc _
      clear h3 x0 x1 x2 x3 x4 y0 y1 y2 yl HPU b4
      obtain ⟨x0, x1, x2, x3, x4⟩ := h5.page.cells5
      obtain ⟨y0, y1, y2, yl⟩ := h5.ent
      rw [HW4.out] at x0 x1 x2 x3 x4 y0 y1 y2
      go_wp2_with fail
      rw [← HW4.out]
      refine (HTU.out _ h5.bel).mono ?_
      rintro r w6 ⟨O6, E6, rfl, hE6, b6⟩
      have h6 := h5.below b6
      obtain ⟨W6, HW6⟩ : ∃ W, Hid (W = w6.alloc (.cells #[.int .i64 O6.kind, .int .i64 O6.at', .string O6.S, .string O6.old] 35)) := ⟨_, rfl⟩
      have h7 : WrAt w W6 ⟨num, lsn, kind, hd, L⟩ a c e := by rw [HW6.out]; exact h6.alloc _
      clear HW4 h4 h5 x0 x1 x2 x3 x4 y0 y1 y2 yl HTU b6
      obtain ⟨x0, x1, x2, x3, x4⟩ := h7.page.cells5
      obtain ⟨y0, y1, y2, yl⟩ := h7.ent
      rw [HW6.out] at x0 x1 x2 x3 x4 y0 y1 y2
      go_wp2_with fail
      rw [← HW6.out]
      refine (HSE.out _ h7.bel).mono ?_
      rintro r w8 ⟨O8, E8, rfl, hE8, b8⟩
      have h8 := h7.below b8
      obtain ⟨W8, HW8⟩ : ∃ W, Hid (W = w8.alloc (.cells #[.int .i64 O8.kind, .int .i64 O8.at', .string O8.S, .string O8.old] 35)) := ⟨_, rfl⟩
      have h9 : WrAt w W8 ⟨num, lsn, kind, hd, L⟩ a c e := by rw [HW8.out]; exact h8.alloc _
      clear HW6 h6 h7 x0 x1 x2 x3 x4 y0 y1 y2 yl HSE b8
      obtain rfl := hE4 (by first | trivial | rfl)
      obtain rfl := hE6 (by first | trivial | rfl)
      obtain rfl := hE8 (by first | trivial | rfl)
      clear hE4 hE6 hE8
      obtain ⟨x0, x1, x2, x3, x4⟩ := h9.page.cells5
      rw [HW8.out] at x0 x1 x2 x3 x4
      by_cases k3 : kind = 3
      · have e3 : (kind == 3) = true := by rw [beq_iff_eq]; exact k3
        clear k3 HK3
        go_wp2
        go_ret
        exact ⟨rfl, by have := h9.bel; rw [HW8.out] at this; exact this⟩
      · have e3 : (kind == 3) = false := by rw [beq_eq_false_iff_ne]; exact k3
        have hN := HK3.out k3
        subst hN
        clear k3 HK3
        go_wp2_with fail
        rw [← HW8.out]
        refine (HNX.out _).mono ?_
        rintro r w10 ⟨rfl, b10⟩
        have B10 := hidn (below_chain h9.bel b10)
        go_wp2
        go_ret
        exact ⟨rfl, B10.out⟩

end Go.Proofs.Ytplcojfogfikfaa
