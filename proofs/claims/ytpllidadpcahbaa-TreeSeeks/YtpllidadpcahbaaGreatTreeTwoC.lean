/-
  check.inner of level 2 over leaves: it tells false.
-/
import Derived.Test.YtpllidadpcahbaaGreatTreeInnerC
import Derived.Test.YtpllidadpcahbaaGreatBase11C
namespace Go.Proofs.YtpllidadpcahbaaGreat
open Go.RowKit Go.Sort
set_option linter.unusedVariables false
set_option linter.unusedSimpArgs false

section
variable {w : World} {cb p : Nat} {A : Nat → Prop} {P : PG} {l : LG} {d : DG} {pv : Value} {L : List Nat} {mb : Nat} {D : DataW Value} {next : Nat}

set_option maxHeartbeats 12800000 in
set_option maxRecDepth 20000 in
theorem cinner_two (Fs : Nat → SheetV) (h : CkAt w cb p A P l d pv L mb D next false) (n lv : Nat) (a : Option Addr) (c : Nat) (C : List ChildV) (s : SpanV) (hC : ChildsAt w a C) (hl : L.length + C.length ≤ 64) (h0 : C ≠ []) (hlv : lv = 2)
    (hfar : ∀ b o, a = some ⟨b, o, none⟩ → b ≠ mb ∧ b ≠ cb ∧ pv.ownBlock ≠ some b)
    (hP : ∀ x ∈ C, (1 ≤ x.page ∧ x.page ≤ 2048) ∧ ∃ f, P.F x.page = some f ∧ f.sh = Fs x.page ∧ f.sh.Fits ∧ leafB f.sh = true)
    (hz : (∀ x, (froms C)[0]? = some x → x = zeroE) ∨ (∃ x, (froms C)[0]? = some x ∧ x.key.toList ≠ [])) :
    Calls Tryz.prog 57 #[.pointer (some ⟨cb, 0, none⟩), innerS n lv a C.length c, s.val] w fun r w' => r = .returned (.bool false) ∧ Below mb w w' := by
  have hC0 : 0 < C.length := List.length_pos_iff.2 h0
  have hFl : (froms C).length = C.length := by unfold froms; rw [List.length_map]
  unfold innerS SpanV.val
  obtain ⟨W, HW⟩ : ∃ W, Hid (W = (w.alloc (.cells #[.int .u32 n, .int .i64 lv, .slice a C.length c, .int .u32 0, .slice none 0 0] 82)).alloc (.cells #[.string s.fr.key, .int .u32 s.fr.page, .int .i64 s.fr.slot, .string s.tt.key, .int .u32 s.tt.page, .int .i64 s.tt.slot, .bool s.op] 88)) := ⟨_, rfl⟩
  have b1 : Below w.heap.size w W := by rw [HW.out]; exact ((Below.refl _ _).alloc (Nat.le_refl _) _).alloc (by simp) _
  have I1 : InB W w.heap.size n lv a c C s := by
    refine ⟨?_, ?_, hC.below b1⟩
    · rw [HW.out]; exact (RowV.five_new _ _ _ _ _ _ _).below ((Below.refl _ _).alloc (Nat.le_refl _) _) (by simp)
    · rw [HW.out]; have := SBox.new (w.alloc (.cells #[.int .u32 n, .int .i64 lv, .slice a C.length c, .int .u32 0, .slice none 0 0] 82)) s; simpa using this
  have C1 := h.below b1
  obtain ⟨cur, hcur, hmk⟩ := make_ents C.length (by omega) W
  have hO0 := hidn (OwnR.made (k := 3) (enc := EntV.enc) (te := 28) (base := W.heap.size) W (Nat.le_refl _) (show C.length ≤ 1000000 by omega) hcur)
  have hB0 := hidn (show Below W.heap.size W (W.alloc (.cells cur 28)) from (Below.refl _ _).alloc (Nat.le_refl _) _)
  obtain ⟨q0, q1, q2, q3, q4⟩ := I1.x.cells5
  have hXl := World.block_lt_of_cell? _ _ q0
  have hq2 : (W.alloc (.cells cur 28)).cell? ⟨w.heap.size, 2, none⟩ = some (.slice a C.length c) := (hB0.out.cell (p := ⟨w.heap.size, 2, none⟩) hXl).trans q2
  have l1 : ¬ ((lv : Int) < 1) := by omega
  have l2 : ¬ ((32 : Int) ≤ (lv : Int)) := by omega
  have l3 : IntKind.i64.wrap ((lv : Int) - 1) = 1 := by rw [IntKind.wrap_i64]; omega
  clear hlv
  go_enter Tryz.func57, Tryz.ntmps57
  go_upto_region 1 with fail
  rw [← HW.out]
  clear HW
  go_upto_block 0 with fail
  go_cut [7] from 12 to 36 (fun v7 wx => ∃ g cap : Nat, v7 = .slice (some ⟨g, 0, none⟩) C.length cap ∧ Hid (OwnR 3 EntV.enc 28 wx W.heap.size g cap (froms C)) ∧ Hid (Below W.heap.size W wx))
  case first =>
    go_wp2_with fail
    go_loopw [7, 27] (fun v7 i wr => ∃ k g cap : Nat, k ≤ C.length ∧ i = .int .i64 k ∧ v7 = .slice (some ⟨g, 0, none⟩) k cap ∧ Hid (OwnR 3 EntV.enc 28 wr W.heap.size g cap (froms (C.take k))) ∧ Hid (Below W.heap.size W wr)) (fun _ i _ => C.length - (intOf i).toNat)
    case atStart => exact ⟨0, _, _, by omega, rfl, rfl, by simpa [froms] using hO0, hB0⟩
    case round =>
      obtain ⟨k, g, cap, hk, rfl, rfl, HO, HB⟩ := hrel
      by_cases hlt : k < C.length
      · have hi0 : (0 : Int) ≤ (k : Int) := by omega
        have hi1 : (k : Int) < (C.length : Int) := by omega
        obtain ⟨bb, o, rfl, hb, d0, d1, d2, d3⟩ := (I1.below HB.out).kids.child hlt
        have htk := hidn (show froms (C.take (k + 1)) = froms (C.take k) ++ [C[k].e] by unfold froms; rw [List.take_succ_eq_append_getElem hlt, List.map_append]; rfl)
        have hlk := hidn (show k = (froms (C.take k)).length by unfold froms; rw [List.length_map, List.length_take]; omega)
        generalize C[k] = y at *
        obtain ⟨V2, HV2⟩ : ∃ V2, Hid (V2 = (wr.alloc (.cells #[.int .u32 y.page, .string y.e.key, .int .u32 y.e.page, .int .i64 y.e.slot] 74)).alloc (.cells #[.string y.e.key, .int .u32 y.e.page, .int .i64 y.e.slot] 28)) := ⟨_, rfl⟩
        have bV2 : Below wr.heap.size wr V2 := by rw [HV2.out]; exact ((Below.refl _ _).alloc (Nat.le_refl _) _).alloc (by simp) _
        have HX := hidn (HO.out.below bV2)
        have HE : Hid (EntsAt V2 (some ⟨wr.heap.size + 1, 0, none⟩) [y.e]) := by
          refine row_ent y.e ?_
          rw [HV2.out]
          have := heap_alloc_new (wr.alloc (.cells #[.int .u32 y.page, .string y.e.key, .int .u32 y.e.page, .int .i64 y.e.slot] 74)) (.cells #[.string y.e.key, .int .u32 y.e.page, .int .i64 y.e.slot] 28)
          simpa using this
        have hBV := hidn (below_chain HB.out bV2)
        have hsz := hBV.out.size
        have hGf := hidn HO.out.from
        rw [HV2.out] at HX HE hsz
        go_wp2_with (at_builtin; refine wpList_appR rowEnt rfl _ _ rfl W.heap.size g cap (froms (C.take k)) k hlk.out rfl HX.out (wr.heap.size + 1) 0 1 1 [y.e] rfl rfl HE.out (by rw [← hlk.out]; simp; omega) (by rw [← hlk.out]; simp; omega) (by simpa using hsz) ?_; intro g' cap' w9 own9 grow9 loc9)
        have B9 : Below W.heap.size W w9 := by rw [← HV2.out] at grow9; exact tgrown hBV.out grow9 hGf.out
        rw [← htk.out] at own9
        have own10 := hidn own9
        go_wp2
        go_roundw
        case rel => exact ⟨k + 1, g', cap', by omega, by go_num, rfl, own10, B9⟩
        case measure => simp [intOf]; omega
      · obtain rfl : k = C.length := by omega
        rw [List.take_length] at HO
        go_wp2
        go_meet
        case rel => exact ⟨g, cap, rfl, HO, HB⟩
  obtain ⟨g, cap, rfl, HO, HB⟩ := hcut
  obtain ⟨W3, HW3⟩ : ∃ W, W = wc := ⟨_, rfl⟩
  rw [← HW3] at HO HB ⊢
  clear HW3 hq2 q0 q1 q2 q3 q4
  have I3 := I1.below HB.out
  have C3 := C1.below HB.out
  have hE3 := OwnR.rows (k := 3) (enc := EntV.enc) (fun x => rfl) (by omega) HO.out
  have hcapF := HO.out.room
  rw [hFl] at hcapF
  have HCF := hidn hcapF
  clear hcapF
  have B3 := below_chain b1 HB.out
  have HRI : Hid (∀ wx, Below W3.heap.size W3 wx → Calls Tryz.prog 98 #[.slice (some ⟨g, 0, none⟩) C.length cap] wx fun r w' => (∃ b : Bool, r = .returned (.bool b) ∧ (b = true ↔ RisesE (froms C))) ∧ Below wx.heap.size wx w') := fun wx hb => by
    have := rise_any (some ⟨g, 0, none⟩) cap (froms C) wx (hE3.below hb) (by rw [hFl]; omega)
    rw [hFl] at this
    exact this
  have HHO : Hid (∀ (o' c' : Nat) wx, EntsAt wx (some ⟨g, o', none⟩) ((froms C).drop 1) → Calls Tryz.prog 99 #[s.val, .slice (some ⟨g, o', none⟩) (C.length - 1) c'] wx fun r w' => r = .returned (.bool (!((froms C).drop 1).any (outS s))) ∧ Below wx.heap.size wx w') := fun o' c' wx he => by
    have := holds_any (some ⟨g, o', none⟩) c' ((froms C).drop 1) s wx he (by rw [List.length_drop, hFl]; omega)
    rw [List.length_drop, hFl] at this
    exact this
  simp only [SpanV.val] at HHO
  obtain ⟨x00, hx00⟩ : ∃ x, (froms C)[0]? = some x := ⟨(froms C)[0]'(by omega), List.getElem?_eq_getElem (by omega)⟩
  obtain ⟨f0, f1, f2⟩ : W3.cell? ⟨g, 0, none⟩ = some (.string x00.key) ∧ W3.cell? ⟨g, 1, none⟩ = some (.int .u32 x00.page) ∧ W3.cell? ⟨g, 2, none⟩ = some (.int .i64 x00.slot) := by
    have hlt0 : 0 < (froms C).length := by omega
    obtain ⟨b', o', e', _, y0, y1, y2⟩ := hE3.ent hlt0
    simp only [Option.some.injEq, Addr.mk.injEq, and_true] at e'
    obtain ⟨rfl, rfl⟩ := e'
    have : (froms C)[0] = x00 := by have := List.getElem?_eq_getElem hlt0; rw [hx00] at this; simpa using this.symm
    rw [this] at y0 y1 y2
    exact ⟨by simpa using y0, by simpa using y1, by simpa using y2⟩
  have hmb : mb ≤ w.heap.size := Nat.le_of_lt h.met.lt
  have hc0i : (0 : Int) < (C.length : Int) := by omega
  have hc1i : (1 : Int) ≤ (C.length : Int) := by omega
  go_upto_region 9 with fail
  rcases hz with hz | ⟨x1, hx1, hkey⟩
  · have hx0 := hz x00 hx00
    rw [hx0] at f0 f1 f2
    simp only [zeroE] at f0 f1 f2
    have gf0 := cell_regrown f0
    have gf1 := cell_regrown f1
    have gf2 := cell_regrown f2
    obtain ⟨t0, t1, t2, t3, t4, t5, t6, tl⟩ := I3.s
    have gt0 := cell_regrown t0
    have gt1 := cell_regrown t1
    have gt2 := cell_regrown t2
    have gt3 := cell_regrown t3
    have gt4 := cell_regrown t4
    have gt5 := cell_regrown t5
    have gt6 := cell_regrown t6
    clear f0 f1 f2 t0 t1 t2 t3 t4 t5 t6 hx0
    by_cases hR : RisesE (froms C)
    · have cR : ∀ dd os, Calls Tryz.prog 98 #[.slice (some ⟨g, 0, none⟩) C.length cap] (grow (redrawn W3 dd) os) fun r w'' => r = .returned (.bool true) ∧ ∃ p : Regrown, w'' = grow (redrawn W3 p.d) p.os := fun dd os => Calls.regrown_of ((HRI.out _ (below_regrown W3 dd os)).mono (by
        rintro r w' ⟨⟨b, rfl, hb⟩, bb⟩
        rw [hb.2 hR]; exact ⟨rfl, bb⟩))
      have hRH := hidn hR
      have HZ := hidn hz
      clear hR hz hx00
      cases hany : ((froms C).drop 1).any (outS s) with
      | true =>
        as_aux_lemma =>
        by_cases hcap : cap = 1
        · subst hcap
          have hCl0 := hidn (show C.length - 1 = 0 by have := HCF.out; omega)
          have hnil : (froms C).drop 1 = [] := List.drop_eq_nil_of_le (by rw [hFl]; have := HCF.out; omega)
          have cH : ∀ dd os, Calls Tryz.prog 99 #[.agg #[.string s.fr.key, .int .u32 s.fr.page, .int .i64 s.fr.slot, .string s.tt.key, .int .u32 s.tt.page, .int .i64 s.tt.slot, .bool s.op], .slice (some ⟨g, 0, none⟩) (C.length - 1) 0] (grow (redrawn W3 dd) os) fun r w'' => r = .returned (.bool false) ∧ ∃ p : Regrown, w'' = grow (redrawn W3 p.d) p.os := fun dd os => by
            have := HHO.out 0 0 (grow (redrawn W3 dd) os) (.inl hnil)
            rw [hany] at this
            exact Calls.regrown_of this
          have hFlH := hidn hFl
          clear hany hFl hnil
          refine wp_region_quiet_below nmixed (by kernel_rfl) ?_
          iterate 8 (quiet_step (first | (go_at_call 98; exact cR _ _)))
          iterate 9 (quiet_step (first | (go_at_call 99; exact cH _ _)))
          refine wpQuiet_nil ?_
          intro _ hw'
          obtain ⟨⟨dq, osq⟩, hw''⟩ := hw'
          have bb := hidn (below_regrown W3 dq osq)
          rw [hw'']
          generalize grow (redrawn W3 dq) osq = V9 at *
          go_wp2
          go_ret
          exact ⟨rfl, (below_chain B3 bb.out).mono hmb⟩
        · have hcap' : ¬ (1 = cap) := fun q => hcap q.symm
          have cH : ∀ dd os, Calls Tryz.prog 99 #[.agg #[.string s.fr.key, .int .u32 s.fr.page, .int .i64 s.fr.slot, .string s.tt.key, .int .u32 s.tt.page, .int .i64 s.tt.slot, .bool s.op], .slice (some ⟨g, 3, none⟩) (C.length - 1) (cap - 1)] (grow (redrawn W3 dd) os) fun r w'' => r = .returned (.bool false) ∧ ∃ p : Regrown, w'' = grow (redrawn W3 p.d) p.os := fun dd os => by
            have := HHO.out 3 (cap - 1) (grow (redrawn W3 dd) os) (ents_drop1 (hE3.below (below_regrown W3 dd os)))
            rw [hany] at this
            exact Calls.regrown_of this
          have hFlH := hidn hFl
          clear hany hFl
          refine wp_region_quiet_below nmixed (by kernel_rfl) ?_
          iterate 8 (quiet_step (first | (go_at_call 98; exact cR _ _)))
          iterate 9 (quiet_step (first | (go_at_call 99; exact cH _ _)))
          refine wpQuiet_nil ?_
          intro _ hw'
          obtain ⟨⟨dq, osq⟩, hw''⟩ := hw'
          have bb := hidn (below_regrown W3 dq osq)
          rw [hw'']
          generalize grow (redrawn W3 dq) osq = V9 at *
          go_wp2
          go_ret
          exact ⟨rfl, (below_chain B3 bb.out).mono hmb⟩
      | false =>
        have HHD : Hid (HeadOk s C) := ⟨HZ.out, hRH.out, hany⟩
        go_cut [53] from 37 to 52 (fun v53 wx => v53 = .bool false ∧ Hid (Below W3.heap.size W3 wx))
        case first =>
          as_aux_lemma =>
          by_cases hcap : cap = 1
          · subst hcap
            have hCl0 := hidn (show C.length - 1 = 0 by have := HCF.out; omega)
            have hnil : (froms C).drop 1 = [] := List.drop_eq_nil_of_le (by rw [hFl]; have := HCF.out; omega)
            have cH : ∀ dd os, Calls Tryz.prog 99 #[.agg #[.string s.fr.key, .int .u32 s.fr.page, .int .i64 s.fr.slot, .string s.tt.key, .int .u32 s.tt.page, .int .i64 s.tt.slot, .bool s.op], .slice (some ⟨g, 0, none⟩) (C.length - 1) 0] (grow (redrawn W3 dd) os) fun r w'' => r = .returned (.bool true) ∧ ∃ p : Regrown, w'' = grow (redrawn W3 p.d) p.os := fun dd os => by
              have := HHO.out 0 0 (grow (redrawn W3 dd) os) (.inl hnil)
              rw [hany] at this
              exact Calls.regrown_of this
            have hFlH := hidn hFl
            clear hany hFl hnil
            refine wp_region_quiet_below nmixed (by kernel_rfl) ?_
            iterate 8 (quiet_step (first | (go_at_call 98; exact cR _ _)))
            iterate 9 (quiet_step (first | (go_at_call 99; exact cH _ _)))
            refine wpQuiet_nil ?_
            intro _ hw'
            obtain ⟨⟨dq, osq⟩, hw''⟩ := hw'
            have bb := hidn (below_regrown W3 dq osq)
            rw [hw'']
            generalize grow (redrawn W3 dq) osq = V9 at *
            go_wp2
            go_meet
            case rel => exact ⟨rfl, bb⟩
          · have hcap' : ¬ (1 = cap) := fun q => hcap q.symm
            have cH : ∀ dd os, Calls Tryz.prog 99 #[.agg #[.string s.fr.key, .int .u32 s.fr.page, .int .i64 s.fr.slot, .string s.tt.key, .int .u32 s.tt.page, .int .i64 s.tt.slot, .bool s.op], .slice (some ⟨g, 3, none⟩) (C.length - 1) (cap - 1)] (grow (redrawn W3 dd) os) fun r w'' => r = .returned (.bool true) ∧ ∃ p : Regrown, w'' = grow (redrawn W3 p.d) p.os := fun dd os => by
              have := HHO.out 3 (cap - 1) (grow (redrawn W3 dd) os) (ents_drop1 (hE3.below (below_regrown W3 dd os)))
              rw [hany] at this
              exact Calls.regrown_of this
            have hFlH := hidn hFl
            clear hany hFl
            refine wp_region_quiet_below nmixed (by kernel_rfl) ?_
            iterate 8 (quiet_step (first | (go_at_call 98; exact cR _ _)))
            iterate 9 (quiet_step (first | (go_at_call 99; exact cH _ _)))
            refine wpQuiet_nil ?_
            intro _ hw'
            obtain ⟨⟨dq, osq⟩, hw''⟩ := hw'
            have bb := hidn (below_regrown W3 dq osq)
            rw [hw'']
            generalize grow (redrawn W3 dq) osq = V9 at *
            go_wp2
            go_meet
            case rel => exact ⟨rfl, bb⟩
        obtain ⟨rfl, HB4⟩ := hcut
        obtain ⟨W4, HW4⟩ : ∃ W, W = wc := ⟨_, rfl⟩
        rw [← HW4] at HB4 ⊢
        clear HW4 gf0 gf1 gf2 gt0 gt1 gt2 gt3 gt4 gt5 gt6 cR
        have I4 := I3.below HB4.out
        have C4 := C3.below HB4.out
        have hE4 := hE3.below HB4.out
        have B4 := below_chain B3 HB4.out
        have hgl : g < W3.heap.size := HO.out.lt
        have hgf : W.heap.size ≤ g := HO.out.from
        have hXl4 := I4.s.lt
        have hwW := b1.size
        have hS1 : W3.heap.size ≤ W4.heap.size := HB4.out.size
        have H0 : Hid (KLoop Fs w W4 W4.heap.size cb p A P l d L mb n lv a c C s g pv 0 pv D next false) :=
          ⟨by simpa using C4, I4, hE4, B4.mono hmb, fun q hq => .inl hq, .inl ⟨rfl, rfl⟩, fun i hi => by omega, Nat.le_refl _⟩
        have HFA : Hid (∀ b o, a = some ⟨b, o, none⟩ → b ≠ mb ∧ b ≠ cb ∧ pv.ownBlock ≠ some b) := hfar
        clear hfar hE3 I3 C3 HHO HRI HO hRH HZ I1 C1 hO0 hB0 hmk hcur I4 C4 hE4
        obtain ⟨z0, z1, z2, z3, z4⟩ := H0.out.ib.x.cells5
        have hcbw : cb < w.heap.size := h.box.lt
        have hmcb : mb < cb := h.mc
        have HRW : Hid (∀ q, pv.ownBlock = some q → q < w.heap.size) := fun q hq => (h.row.lt q hq).2
        go_wp2_with fail
        go_loopw [57] (fun i wr => ∃ (k : Nat) (pvk : Value) (Dk : DataW Value) (nxk : Nat) (lnk : Bool), (k ≤ C.length ∧ k < C.length) ∧ i = .int .i64 k ∧ Hid (KLoop Fs w wr W4.heap.size cb p A P l d L mb n lv a c C s g pv k pvk Dk nxk lnk)) (fun i _ => C.length - (intOf i).toNat)
        case atStart => exact ⟨0, pv, D, next, false, by omega, rfl, H0⟩
        case round =>
          clear z0 z1 z2 z3 z4 H0
          obtain ⟨k, pvk, Dk, nxk, lnk, ⟨hk, hlt⟩, rfl, HK⟩ := hrel
          by_cases hltx : k < C.length
          · have hi0 : (0 : Int) ≤ (k : Int) := by omega
            have hi1 : (k : Int) < (C.length : Int) := by omega
            obtain ⟨bb, o, rfl, hb, d0, d1, d2, d3⟩ := HK.out.ib.kids.child hlt
            have hbbw : bb < w.heap.size := by
              obtain ⟨b', o', e', hb', _⟩ := hC.child hlt
              simp only [Option.some.injEq, Addr.mk.injEq, and_true] at e'
              omega
            obtain ⟨y, hy⟩ : ∃ y, C[k] = y := ⟨_, rfl⟩
            obtain ⟨hpg, f, hPf, hfs, hfit, hB⟩ := hP C[k] (List.getElem_mem hlt)
            have hCk : C[k]? = some C[k] := List.getElem?_eq_getElem hlt
            have htk : (C.take (k + 1)).map ChildV.page = (C.take k).map ChildV.page ++ [C[k].page] := by rw [List.take_succ_eq_append_getElem hlt, List.map_append]; rfl
            rw [hy] at d0 d1 d2 d3 hpg hPf hfs hCk htk
            have HCk := hidn hCk
            have HTK := hidn htk
            have HFS := hidn hfs
            clear hCk htk hy
            obtain ⟨ps, Hps⟩ : ∃ ps, Hid (partS s (froms C) k = ps) := ⟨_, rfl⟩
            obtain ⟨W11, HW11⟩ : ∃ W, Hid (W = wr.alloc (.cells #[.int .u32 y.page, .string y.e.key, .int .u32 y.e.page, .int .i64 y.e.slot] 74)) := ⟨_, rfl⟩
            have b11 : Below wr.heap.size wr W11 := by rw [HW11.out]; exact (Below.refl _ _).alloc (Nat.le_refl _) _
            have y11 : W11.cell? ⟨wr.heap.size, 0, none⟩ = some (.int .u32 y.page) := by rw [HW11.out]; simp
            have hz11 : wr.heap.size < W11.heap.size := by rw [HW11.out]; simp
            have K11 := hidn (HK.out.below b11)
            have hZr := HK.out.gz
            have HOF : Hid (∀ b0, (w.heap.size ≤ b0 ∧ b0 < W4.heap.size) ∨ b0 = bb ∨ b0 = wr.heap.size → ¬ CkS mb cb pvk b0) := by
              intro b0 hb0 hs
              have hrl := HK.out.ck.row.lt
              rcases hs with e | e | e
              · rcases hb0 with q | q | q
                · omega
                · exact (HFA.out bb o rfl).1 (q ▸ e)
                · have := HK.out.ck.met.lt; omega
              · rcases hb0 with q | q | q
                · omega
                · exact (HFA.out bb o rfl).2.1 (q ▸ e)
                · have := HK.out.ck.box.lt; omega
              · rcases hb0 with q | q | q
                · rcases HK.out.far b0 e with r | r
                  · have := HRW.out b0 r; omega
                  · omega
                · rcases HK.out.far b0 e with r | r
                  · exact (HFA.out bb o rfl).2.2 (q ▸ r)
                  · omega
                · have := (hrl b0 e).2; omega
            have HPA : Hid (∀ V, Below W11.heap.size W11 V → Calls Tryz.prog 100 #[s.val, .slice (some ⟨g, 0, none⟩) C.length cap, .int .i64 k] V fun r w' => r = .returned ps.val ∧ Below V.heap.size V w') := fun V hV => by
              have := part_any (some ⟨g, 0, none⟩) cap (froms C) s k V (K11.out.fr.below hV) (by rw [hFl]; exact hlt) (by rw [hFl]; omega)
              rw [hFl, Hps.out] at this
              exact this
            simp only [SpanV.val] at HPA
            obtain ⟨v0, v1, v2, v3, v4⟩ := K11.out.ib.x.cells5
            obtain ⟨t0, t1, t2, t3, t4, t5, t6, tl⟩ := K11.out.ib.s
            have hxl := World.block_lt_of_cell? _ _ v0
            have hll : (L ++ (C.take k).map ChildV.page).length < 64 := by rw [List.length_append, List.length_map, List.length_take]; omega
            go_upto_region 14 with fail
            rw [← HW11.out]
            clear HW11 d0 d1 d2 d3 v0 v2 v3 v4
            by_cases hin : y.page ∈ L ++ (C.take k).map ChildV.page
            · have HPG : Hid (∀ V, Below W11.heap.size W11 V → Calls Tryz.prog 29 #[.pointer (some ⟨cb, 0, none⟩), .int .u32 y.page, .int .i64 1, ps.val] V fun r w' => r = .returned (.bool false) ∧ Below V.heap.size V w') := fun V hV => page_again (K11.out.ck.below hV) y.page (by omega) 1 ps hin
              simp only [SpanV.val] at HPG
              clear hin
              have hmW : mb ≤ W11.heap.size := Nat.le_of_lt K11.out.ck.met.lt
              have HS : Hid (∀ V : World, V.heap[wr.heap.size]? = W11.heap[wr.heap.size]? → V.heap[w.heap.size]? = W11.heap[w.heap.size]? → V.heap[w.heap.size + 1]? = W11.heap[w.heap.size + 1]? → (fun wy => wy.cell? ⟨wr.heap.size, 0, none⟩ = some (.int .u32 y.page) ∧ wy.cell? ⟨w.heap.size, 1, none⟩ = some (.int .i64 lv) ∧ wy.cell? ⟨w.heap.size + 1, 0, none⟩ = some (.string s.fr.key) ∧ wy.cell? ⟨w.heap.size + 1, 1, none⟩ = some (.int .u32 s.fr.page) ∧ wy.cell? ⟨w.heap.size + 1, 2, none⟩ = some (.int .i64 s.fr.slot) ∧ wy.cell? ⟨w.heap.size + 1, 3, none⟩ = some (.string s.tt.key) ∧ wy.cell? ⟨w.heap.size + 1, 4, none⟩ = some (.int .u32 s.tt.page) ∧ wy.cell? ⟨w.heap.size + 1, 5, none⟩ = some (.int .i64 s.tt.slot) ∧ wy.cell? ⟨w.heap.size + 1, 6, none⟩ = some (.bool s.op)) V) := fun V e1 e2 e3 =>
                ⟨(World.cell?_of_block (w := W11) (a := ⟨wr.heap.size, 0, none⟩) e1).trans y11, (World.cell?_of_block (w := W11) (a := ⟨w.heap.size, 1, none⟩) e2).trans v1, (World.cell?_of_block (w := W11) (a := ⟨w.heap.size + 1, 0, none⟩) e3).trans t0, (World.cell?_of_block (w := W11) (a := ⟨w.heap.size + 1, 1, none⟩) e3).trans t1, (World.cell?_of_block (w := W11) (a := ⟨w.heap.size + 1, 2, none⟩) e3).trans t2, (World.cell?_of_block (w := W11) (a := ⟨w.heap.size + 1, 3, none⟩) e3).trans t3, (World.cell?_of_block (w := W11) (a := ⟨w.heap.size + 1, 4, none⟩) e3).trans t4, (World.cell?_of_block (w := W11) (a := ⟨w.heap.size + 1, 5, none⟩) e3).trans t5, (World.cell?_of_block (w := W11) (a := ⟨w.heap.size + 1, 6, none⟩) e3).trans t6⟩
              have bD : Below W11.heap.size W11 W11.drew := (Below.refl _ _).drew
              go_region_held3 (fun wy => wy.cell? ⟨wr.heap.size, 0, none⟩ = some (.int .u32 y.page) ∧ wy.cell? ⟨w.heap.size, 1, none⟩ = some (.int .i64 lv) ∧ wy.cell? ⟨w.heap.size + 1, 0, none⟩ = some (.string s.fr.key) ∧ wy.cell? ⟨w.heap.size + 1, 1, none⟩ = some (.int .u32 s.fr.page) ∧ wy.cell? ⟨w.heap.size + 1, 2, none⟩ = some (.int .i64 s.fr.slot) ∧ wy.cell? ⟨w.heap.size + 1, 3, none⟩ = some (.string s.tt.key) ∧ wy.cell? ⟨w.heap.size + 1, 4, none⟩ = some (.int .u32 s.tt.page) ∧ wy.cell? ⟨w.heap.size + 1, 5, none⟩ = some (.int .i64 s.tt.slot) ∧ wy.cell? ⟨w.heap.size + 1, 6, none⟩ = some (.bool s.op))
                (first | (go_keep; done) | exact S13 | exact S12)
                (first
                  | (go_at_call 100; refine (HPA.out _ (by first | exact Below.refl _ _ | exact bD)).mono ?_; rintro r1 w12 ⟨rfl, b12⟩
                     have q12 : Below W11.heap.size W11 w12 := by first | exact b12 | exact below_chain bD b12
                     have S12 := HS.out w12 (q12.block _ hz11) (q12.block _ hxl) (q12.block _ tl))
                  | (go_at_call 29; refine (HPG.out _ (by first | exact q12 | exact q12.drew)).mono ?_; rintro r2 w13 ⟨rfl, b13⟩
                     have q13 : Below W11.heap.size W11 w13 := by first | exact below_chain q12 b13 | exact below_chain q12.drew b13
                     have S13 := HS.out w13 (q13.block _ hz11) (q13.block _ hxl) (q13.block _ tl)))
              all_goals
                have bb13 := hidn (K11.out.bel.trans (q13.mono hmW))
                clear S13 S12
                go_wp2
                go_ret
                exact ⟨rfl, bb13.out⟩
            · have HPG : Hid (∀ V, Below W11.heap.size W11 V → Calls Tryz.prog 29 #[.pointer (some ⟨cb, 0, none⟩), .int .u32 y.page, .int .i64 1, ps.val] V fun r w' => r = .returned (.bool false) ∧ Kept (CkS mb cb pvk) V w') := fun V hV => page_off (K11.out.ck.below hV) y.page hpg.1 hpg.2 hin hll hPf hfit hB ps
              simp only [SpanV.val] at HPG
              have hinH := hidn hin
              clear hin
              have hW4w : w.heap.size + 1 < W4.heap.size := by omega
              have hmW : mb ≤ W11.heap.size := Nat.le_of_lt K11.out.ck.met.lt
              have HS : Hid (∀ V : World, V.heap[wr.heap.size]? = W11.heap[wr.heap.size]? → V.heap[w.heap.size]? = W11.heap[w.heap.size]? → V.heap[w.heap.size + 1]? = W11.heap[w.heap.size + 1]? → (fun wy => wy.cell? ⟨wr.heap.size, 0, none⟩ = some (.int .u32 y.page) ∧ wy.cell? ⟨w.heap.size, 1, none⟩ = some (.int .i64 lv) ∧ wy.cell? ⟨w.heap.size + 1, 0, none⟩ = some (.string s.fr.key) ∧ wy.cell? ⟨w.heap.size + 1, 1, none⟩ = some (.int .u32 s.fr.page) ∧ wy.cell? ⟨w.heap.size + 1, 2, none⟩ = some (.int .i64 s.fr.slot) ∧ wy.cell? ⟨w.heap.size + 1, 3, none⟩ = some (.string s.tt.key) ∧ wy.cell? ⟨w.heap.size + 1, 4, none⟩ = some (.int .u32 s.tt.page) ∧ wy.cell? ⟨w.heap.size + 1, 5, none⟩ = some (.int .i64 s.tt.slot) ∧ wy.cell? ⟨w.heap.size + 1, 6, none⟩ = some (.bool s.op)) V) := fun V e1 e2 e3 =>
                ⟨(World.cell?_of_block (w := W11) (a := ⟨wr.heap.size, 0, none⟩) e1).trans y11, (World.cell?_of_block (w := W11) (a := ⟨w.heap.size, 1, none⟩) e2).trans v1, (World.cell?_of_block (w := W11) (a := ⟨w.heap.size + 1, 0, none⟩) e3).trans t0, (World.cell?_of_block (w := W11) (a := ⟨w.heap.size + 1, 1, none⟩) e3).trans t1, (World.cell?_of_block (w := W11) (a := ⟨w.heap.size + 1, 2, none⟩) e3).trans t2, (World.cell?_of_block (w := W11) (a := ⟨w.heap.size + 1, 3, none⟩) e3).trans t3, (World.cell?_of_block (w := W11) (a := ⟨w.heap.size + 1, 4, none⟩) e3).trans t4, (World.cell?_of_block (w := W11) (a := ⟨w.heap.size + 1, 5, none⟩) e3).trans t5, (World.cell?_of_block (w := W11) (a := ⟨w.heap.size + 1, 6, none⟩) e3).trans t6⟩
              have bD : Below W11.heap.size W11 W11.drew := (Below.refl _ _).drew
              go_region_held3 (fun wy => wy.cell? ⟨wr.heap.size, 0, none⟩ = some (.int .u32 y.page) ∧ wy.cell? ⟨w.heap.size, 1, none⟩ = some (.int .i64 lv) ∧ wy.cell? ⟨w.heap.size + 1, 0, none⟩ = some (.string s.fr.key) ∧ wy.cell? ⟨w.heap.size + 1, 1, none⟩ = some (.int .u32 s.fr.page) ∧ wy.cell? ⟨w.heap.size + 1, 2, none⟩ = some (.int .i64 s.fr.slot) ∧ wy.cell? ⟨w.heap.size + 1, 3, none⟩ = some (.string s.tt.key) ∧ wy.cell? ⟨w.heap.size + 1, 4, none⟩ = some (.int .u32 s.tt.page) ∧ wy.cell? ⟨w.heap.size + 1, 5, none⟩ = some (.int .i64 s.tt.slot) ∧ wy.cell? ⟨w.heap.size + 1, 6, none⟩ = some (.bool s.op))
                (first | (go_keep; done) | exact S13 | exact S12)
                (first
                  | (go_at_call 100; refine (HPA.out _ (by first | exact Below.refl _ _ | exact bD)).mono ?_; rintro r1 w12 ⟨rfl, b12⟩
                     have q12 : Below W11.heap.size W11 w12 := by first | exact b12 | exact below_chain bD b12
                     have S12 := HS.out w12 (q12.block _ hz11) (q12.block _ hxl) (q12.block _ tl))
                  | (go_at_call 29; refine (HPG.out _ (by first | exact q12 | exact q12.drew)).mono ?_; rintro r2 w13 ⟨rfl, k13⟩
                     have kk13 : ∀ b0, b0 < W11.heap.size → ¬ CkS mb cb pvk b0 → w13.heap[b0]? = W11.heap[b0]? := fun b0 hb0 hs => (by first | exact (k13.block b0 (Nat.lt_of_lt_of_le hb0 q12.size) hs).trans (q12.block b0 hb0) | exact (k13.block b0 (Nat.lt_of_lt_of_le hb0 q12.drew.size) hs).trans (q12.drew.block b0 hb0))
                     have S13 := HS.out w13 (kk13 _ hz11 (HOF.out _ (.inr (.inr rfl)))) (kk13 _ hxl (HOF.out _ (.inl ⟨Nat.le_refl _, by omega⟩))) (kk13 _ tl (HOF.out _ (.inl ⟨by omega, by omega⟩)))))
              all_goals
                have bel13 : Hid (Below mb w w13) := by
                  have e1 := K11.out.bel
                  refine ⟨?_, ?_, ?_, ?_, fun q hq => ?_⟩
                  · exact k13.os.trans ((by first | exact q12.os | exact q12.drew.os : _ = W11.os).trans e1.os)
                  · exact k13.tape.trans ((by first | exact q12.tape | exact q12.drew.tape : _ = W11.tape).trans e1.tape)
                  · exact k13.output.trans ((by first | exact q12.output | exact q12.drew.output : _ = W11.output).trans e1.output)
                  · exact Nat.le_trans e1.size (Nat.le_trans (by first | exact q12.size | exact q12.drew.size) k13.size)
                  · rw [kk13 q (by omega) (fun hs => by
                      rcases hs with e | e | e
                      · omega
                      · omega
                      · have := (HK.out.ck.row.lt q e).1; omega), e1.block q hq]
                clear S13 S12 k13 kk13
                go_wp2
                go_ret
                exact ⟨rfl, bel13.out⟩
          · exact absurd hlt hltx
    · have cR : ∀ dd os, Calls Tryz.prog 98 #[.slice (some ⟨g, 0, none⟩) C.length cap] (grow (redrawn W3 dd) os) fun r w'' => r = .returned (.bool false) ∧ ∃ p : Regrown, w'' = grow (redrawn W3 p.d) p.os := fun dd os => Calls.regrown_of ((HRI.out _ (below_regrown W3 dd os)).mono (by
        rintro r w' ⟨⟨b, rfl, hb⟩, bb⟩
        have : b = false := by cases b with
          | false => rfl
          | true => exact absurd (hb.1 rfl) hR
        rw [this]; exact ⟨rfl, bb⟩))
      clear hR
      refine wp_region_quiet_below nmixed (by kernel_rfl) ?_
      iterate 17 (quiet_step (first | (go_at_call 98; exact cR _ _)))
      refine wpQuiet_nil ?_
      intro _ hw'
      obtain ⟨⟨dq, osq⟩, hw''⟩ := hw'
      have bb := hidn (below_chain B3 (below_regrown W3 dq osq))
      rw [hw'']
      generalize grow (redrawn W3 dq) osq = V9 at *
      go_wp2
      go_ret
      exact ⟨rfl, bb.out.mono hmb⟩
  · rw [hx00] at hx1
    obtain rfl : x00 = x1 := by simpa using hx1
    have hke : ¬ (x00.key.toList = []) := hkey
    go_quiet (fail)
    go_wp2
    go_ret
    exact ⟨rfl, by show RowKit.Below _ _ _; exact (below_drewN B3 _).mono hmb⟩

end

end Go.Proofs.YtpllidadpcahbaaGreat
