/-
  check.inner of a page whose children are leaves.
-/
import Derived.Test.YtpllidadpcahbaaGreatBase10C
namespace Go.Proofs.YtpllidadpcahbaaGreat
open Go.RowKit Go.Sort
set_option linter.unusedVariables false
set_option linter.unusedSimpArgs false

def zeroE : EntV := ⟨⟨#[]⟩, 0, 0⟩

/-- Where the children begin. -/
def froms (C : List ChildV) : List EntV := C.map ChildV.e

def HeadOk (s : SpanV) (C : List ChildV) : Prop := (∀ x, (froms C)[0]? = some x → x = zeroE) ∧ RisesE (froms C) ∧ ((froms C).drop 1).any (outS s) = false

/-- May the child i stand there? -/
def KidOk (Fs : Nat → SheetV) (L : List Nat) (s : SpanV) (C : List ChildV) (i : Nat) : Prop :=
  ∀ x, C[i]? = some x → x.page ∉ L ++ (C.take i).map ChildV.page ∧ (∀ y, 0 < i → C[i - 1]? = some y → nextF (Fs y.page) = x.page) ∧ LeafOk (partS s (froms C) i) (leafL (Fs x.page))

/-- What check.inner tells, and leaves. -/
structure InnerOut (Fs : Nat → SheetV) (w : World) (cb p : Nat) (A : Nat → Prop) (P : PG) (l : LG) (d : DG) (L : List Nat) (mb : Nat) (s : SpanV) (C : List ChildV) (r : Ending) (w' : World) : Prop where
  out : ∃ b : Bool, r = .returned (.bool b) ∧ (b = true ↔ HeadOk s C ∧ ∀ i, KidOk Fs L s C i) ∧ (b = true → ∃ pv' D' nx, CkAt w' cb p A P l d pv' (L ++ C.map ChildV.page) mb D' nx true ∧ ∀ y, C[C.length - 1]? = some y → nx = nextF (Fs y.page))
  bel : Below mb w w'

/-- The boxes of check.inner, the children and where they begin. -/
structure InB (w : World) (Xb n lv : Nat) (a : Option Addr) (c : Nat) (C : List ChildV) (s : SpanV) : Prop where
  x : RowV w Xb 5 (five (.int .u32 n) (.int .i64 lv) (.slice a C.length c) (.int .u32 0) (.slice none 0 0))
  s : SBox w (Xb + 1) s
  kids : ChildsAt w a C

theorem InB.keep {w w' : World} {Xb n lv : Nat} {a : Option Addr} {c : Nat} {C : List ChildV} {s : SpanV} (h : InB w Xb n lv a c C s) (e1 : w'.heap[Xb]? = w.heap[Xb]?) (e2 : w'.heap[Xb + 1]? = w.heap[Xb + 1]?) (e3 : ∀ b o, a = some ⟨b, o, none⟩ → C ≠ [] → b < w.heap.size → w'.heap[b]? = w.heap[b]?) (hz : w.heap.size ≤ w'.heap.size) : InB w' Xb n lv a c C s := by
  refine ⟨fun j hj => ⟨(World.cell?_of_block (w := w) (a := ⟨Xb, j, none⟩) e1).trans (h.x j hj).1, (World.frozen?_of_block (w := w) (a := ⟨Xb, j, none⟩) e1).trans (h.x j hj).2⟩, h.s.same e2, ?_⟩
  rcases h.kids with q | ⟨b, o, e, hb, hc⟩
  · exact .inl q
  · by_cases h0 : C = []
    · exact .inl h0
    · exact .inr ⟨b, o, e, Nat.lt_of_lt_of_le hb hz, fun i hi j v hv => (World.cell?_of_block (w := w) (a := ⟨b, o + i * 4 + j, none⟩) (e3 b o e h0 hb)).trans (hc i hi j v hv)⟩

theorem InB.below {w w' : World} {Xb n lv : Nat} {a : Option Addr} {c : Nat} {C : List ChildV} {s : SpanV} (h : InB w Xb n lv a c C s) (k : Below w.heap.size w w') : InB w' Xb n lv a c C s :=
  h.keep (k.block Xb (World.block_lt_of_cell? _ _ (h.x 0 (by omega)).1)) (k.block (Xb + 1) h.s.lt) (fun b o e h0 hb => k.block b hb) k.size

theorem ents_drop1 {w : World} {g : Nat} {F : List EntV} (h : EntsAt w (some ⟨g, 0, none⟩) F) : EntsAt w (some ⟨g, 3, none⟩) (F.drop 1) := by
  rcases h with q | ⟨b, o, e1, hb, hc⟩
  · subst q; exact .inl (by simp)
  · simp only [Option.some.injEq, Addr.mk.injEq, and_true] at e1
    obtain ⟨rfl, rfl⟩ := e1
    refine .inr ⟨g, 3, rfl, hb, fun i hi j v hv => ?_⟩
    have hi' : 1 + i < F.length := by rw [List.length_drop] at hi; omega
    rw [List.getElem_drop] at hv
    have := hc (1 + i) hi' j v hv
    rwa [show 0 + (1 + i) * 3 + j = 3 + i * 3 + j by omega] at this

/-- Where the second loop stands behind k children. -/
structure KLoop (Fs : Nat → SheetV) (w wr : World) (Z cb p : Nat) (A : Nat → Prop) (P : PG) (l : LG) (d : DG) (L : List Nat) (mb n lv : Nat) (a : Option Addr) (c : Nat) (C : List ChildV) (s : SpanV) (g : Nat) (pv : Value) (k : Nat) (pvk : Value) (Dk : DataW Value) (nxk : Nat) (lnk : Bool) : Prop where
  ck : CkAt wr cb p A P l d pvk (L ++ (C.take k).map ChildV.page) mb Dk nxk lnk
  ib : InB wr w.heap.size n lv a c C s
  fr : EntsAt wr (some ⟨g, 0, none⟩) (froms C)
  bel : Below mb w wr
  far : ∀ q, pvk.ownBlock = some q → pv.ownBlock = some q ∨ Z ≤ q
  lnk : (k = 0 ∧ lnk = false) ∨ (0 < k ∧ lnk = true ∧ ∀ y, C[k - 1]? = some y → nxk = nextF (Fs y.page))
  ok : ∀ i, i < k → KidOk Fs L s C i
  gz : Z ≤ wr.heap.size

theorem KLoop.below {Fs : Nat → SheetV} {w wr wy : World} {Z cb p : Nat} {A : Nat → Prop} {P : PG} {l : LG} {d : DG} {L : List Nat} {mb n lv : Nat} {a : Option Addr} {c : Nat} {C : List ChildV} {s : SpanV} {g : Nat} {pv : Value} {k : Nat} {pvk : Value} {Dk : DataW Value} {nxk : Nat} {lnk : Bool} (h : KLoop Fs w wr Z cb p A P l d L mb n lv a c C s g pv k pvk Dk nxk lnk) (b : Below wr.heap.size wr wy) : KLoop Fs w wy Z cb p A P l d L mb n lv a c C s g pv k pvk Dk nxk lnk :=
  ⟨h.ck.below b, h.ib.below b, h.fr.below b, h.bel.trans (b.mono (Nat.le_of_lt h.ck.met.lt)), h.far, h.lnk, h.ok, Nat.le_trans h.gz b.size⟩

section
variable {w : World} {cb p : Nat} {A : Nat → Prop} {P : PG} {l : LG} {d : DG} {pv : Value} {L : List Nat} {mb : Nat} {D : DataW Value} {next : Nat}

set_option maxHeartbeats 12800000 in
set_option maxRecDepth 20000 in
theorem cinner_any (Fs : Nat → SheetV) (h : CkAt w cb p A P l d pv L mb D next false) (n lv : Nat) (a : Option Addr) (c : Nat) (C : List ChildV) (s : SpanV) (hC : ChildsAt w a C) (hl : L.length + C.length ≤ 64) (h0 : C ≠ []) (hlv : lv = 1)
    (hfar : ∀ b o, a = some ⟨b, o, none⟩ → b ≠ mb ∧ b ≠ cb ∧ pv.ownBlock ≠ some b)
    (hP : ∀ x ∈ C, (1 ≤ x.page ∧ x.page ≤ 2048) ∧ ∃ f, P.F x.page = some f ∧ f.sh = Fs x.page ∧ f.sh.Fits ∧ leafB f.sh = true)
    (hz : (∀ x, (froms C)[0]? = some x → x = zeroE) ∨ (∃ x, (froms C)[0]? = some x ∧ x.key.toList ≠ [])) :
    Calls Tryz.prog 57 #[.pointer (some ⟨cb, 0, none⟩), innerS n lv a C.length c, s.val] w (InnerOut Fs w cb p A P l d L mb s C) := by
  have hC0 : 0 < C.length := List.length_pos_iff.2 h0
  have hFl : (froms C).length = C.length := by unfold froms; rw [List.length_map]
  unfold innerS SpanV.val
  obtain ⟨W, HW⟩ : ∃ W, Hid (W = (w.alloc (.cells #[.int .u32 n, .int .i64 lv, .slice a C.length c, .int .u32 0, .slice none 0 0] 82)).alloc (.cells #[.string s.fr.key, .int .u32 s.fr.page, .int .i64 s.fr.slot, .string s.tt.key, .int .u32 s.tt.page, .int .i64 s.tt.slot, .bool s.op] 88)) := ⟨_, rfl⟩
  have b1 : Below w.heap.size w W := by rw [HW.out]; exact ((Below.refl _ _).alloc (Nat.le_refl _) _).alloc (by simp) _
  have I1 : InB W w.heap.size n lv a c C s := by
    refine ⟨?_, ?_, hC.below b1⟩
    · rw [HW.out]; exact (RowV.five_new _ _ _ _ _ _ _).below ((Below.refl _ _).alloc (Nat.le_refl _) _) (by simp)
    · rw [HW.out]; have := SBox.new (w.alloc (.cells #[.int .u32 n, .int .i64 lv, .slice a C.length c, .int .u32 0, .slice none 0 0] 82)) s; simpa using this
  have C1 := h.below b1
  obtain ⟨cur, hcur, hmk⟩ := make_ents C.length (by omega) W
  have hO0 := hidn (OwnR.made (k := 3) (enc := EntV.enc) (te := 28) (base := W.heap.size) W (Nat.le_refl _) (show C.length ≤ 1000000 by omega) hcur)
  have hB0 := hidn (show Below W.heap.size W (W.alloc (.cells cur 28)) from (Below.refl _ _).alloc (Nat.le_refl _) _)
  obtain ⟨q0, q1, q2, q3, q4⟩ := I1.x.cells5
  have hXl := World.block_lt_of_cell? _ _ q0
  have hq2 : (W.alloc (.cells cur 28)).cell? ⟨w.heap.size, 2, none⟩ = some (.slice a C.length c) := (hB0.out.cell (p := ⟨w.heap.size, 2, none⟩) hXl).trans q2
  have l1 : ¬ ((lv : Int) < 1) := by omega
  have l2 : ¬ ((32 : Int) ≤ (lv : Int)) := by omega
  have l3 : IntKind.i64.wrap ((lv : Int) - 1) = 0 := by rw [IntKind.wrap_i64]; omega
  clear hlv
  go_enter Tryz.func57, Tryz.ntmps57
  go_upto_region 1 with fail
  rw [← HW.out]
  clear HW
  go_upto_block 0 with fail
  go_cut [7] from 12 to 36 (fun v7 wx => ∃ g cap : Nat, v7 = .slice (some ⟨g, 0, none⟩) C.length cap ∧ Hid (OwnR 3 EntV.enc 28 wx W.heap.size g cap (froms C)) ∧ Hid (Below W.heap.size W wx))
  case first =>
    go_wp2_with fail
    go_loopw [7, 27] (fun v7 i wr => ∃ k g cap : Nat, k ≤ C.length ∧ i = .int .i64 k ∧ v7 = .slice (some ⟨g, 0, none⟩) k cap ∧ Hid (OwnR 3 EntV.enc 28 wr W.heap.size g cap (froms (C.take k))) ∧ Hid (Below W.heap.size W wr)) (fun _ i _ => C.length - (intOf i).toNat)
    case atStart => exact ⟨0, _, _, by omega, rfl, rfl, by simpa [froms] using hO0, hB0⟩
    case round =>
      obtain ⟨k, g, cap, hk, rfl, rfl, HO, HB⟩ := hrel
      by_cases hlt : k < C.length
      · have hi0 : (0 : Int) ≤ (k : Int) := by omega
        have hi1 : (k : Int) < (C.length : Int) := by omega
        obtain ⟨bb, o, rfl, hb, d0, d1, d2, d3⟩ := (I1.below HB.out).kids.child hlt
        have htk := hidn (show froms (C.take (k + 1)) = froms (C.take k) ++ [C[k].e] by unfold froms; rw [List.take_succ_eq_append_getElem hlt, List.map_append]; rfl)
        have hlk := hidn (show k = (froms (C.take k)).length by unfold froms; rw [List.length_map, List.length_take]; omega)
        generalize C[k] = y at *
        obtain ⟨V2, HV2⟩ : ∃ V2, Hid (V2 = (wr.alloc (.cells #[.int .u32 y.page, .string y.e.key, .int .u32 y.e.page, .int .i64 y.e.slot] 74)).alloc (.cells #[.string y.e.key, .int .u32 y.e.page, .int .i64 y.e.slot] 28)) := ⟨_, rfl⟩
        have bV2 : Below wr.heap.size wr V2 := by rw [HV2.out]; exact ((Below.refl _ _).alloc (Nat.le_refl _) _).alloc (by simp) _
        have HX := hidn (HO.out.below bV2)
        have HE : Hid (EntsAt V2 (some ⟨wr.heap.size + 1, 0, none⟩) [y.e]) := by
          refine row_ent y.e ?_
          rw [HV2.out]
          have := heap_alloc_new (wr.alloc (.cells #[.int .u32 y.page, .string y.e.key, .int .u32 y.e.page, .int .i64 y.e.slot] 74)) (.cells #[.string y.e.key, .int .u32 y.e.page, .int .i64 y.e.slot] 28)
          simpa using this
        have hBV := hidn (below_chain HB.out bV2)
        have hsz := hBV.out.size
        have hGf := hidn HO.out.from
        rw [HV2.out] at HX HE hsz
        go_wp2_with (at_builtin; refine wpList_appR rowEnt rfl _ _ rfl W.heap.size g cap (froms (C.take k)) k hlk.out rfl HX.out (wr.heap.size + 1) 0 1 1 [y.e] rfl rfl HE.out (by rw [← hlk.out]; simp; omega) (by rw [← hlk.out]; simp; omega) (by simpa using hsz) ?_; intro g' cap' w9 own9 grow9 loc9)
        have B9 : Below W.heap.size W w9 := by rw [← HV2.out] at grow9; exact tgrown hBV.out grow9 hGf.out
        rw [← htk.out] at own9
        have own10 := hidn own9
        go_wp2
        go_roundw
        case rel => exact ⟨k + 1, g', cap', by omega, by go_num, rfl, own10, B9⟩
        case measure => simp [intOf]; omega
      · obtain rfl : k = C.length := by omega
        rw [List.take_length] at HO
        go_wp2
        go_meet
        case rel => exact ⟨g, cap, rfl, HO, HB⟩
  obtain ⟨g, cap, rfl, HO, HB⟩ := hcut
  obtain ⟨W3, HW3⟩ : ∃ W, W = wc := ⟨_, rfl⟩
  rw [← HW3] at HO HB ⊢
  clear HW3 hq2 q0 q1 q2 q3 q4
  have I3 := I1.below HB.out
  have C3 := C1.below HB.out
  have hE3 := OwnR.rows (k := 3) (enc := EntV.enc) (fun x => rfl) (by omega) HO.out
  have hcapF := HO.out.room
  rw [hFl] at hcapF
  have HCF := hidn hcapF
  clear hcapF
  have B3 := below_chain b1 HB.out
  have HRI : Hid (∀ wx, Below W3.heap.size W3 wx → Calls Tryz.prog 98 #[.slice (some ⟨g, 0, none⟩) C.length cap] wx fun r w' => (∃ b : Bool, r = .returned (.bool b) ∧ (b = true ↔ RisesE (froms C))) ∧ Below wx.heap.size wx w') := fun wx hb => by
    have := rise_any (some ⟨g, 0, none⟩) cap (froms C) wx (hE3.below hb) (by rw [hFl]; omega)
    rw [hFl] at this
    exact this
  have HHO : Hid (∀ (o' c' : Nat) wx, EntsAt wx (some ⟨g, o', none⟩) ((froms C).drop 1) → Calls Tryz.prog 99 #[s.val, .slice (some ⟨g, o', none⟩) (C.length - 1) c'] wx fun r w' => r = .returned (.bool (!((froms C).drop 1).any (outS s))) ∧ Below wx.heap.size wx w') := fun o' c' wx he => by
    have := holds_any (some ⟨g, o', none⟩) c' ((froms C).drop 1) s wx he (by rw [List.length_drop, hFl]; omega)
    rw [List.length_drop, hFl] at this
    exact this
  simp only [SpanV.val] at HHO
  obtain ⟨x00, hx00⟩ : ∃ x, (froms C)[0]? = some x := ⟨(froms C)[0]'(by omega), List.getElem?_eq_getElem (by omega)⟩
  obtain ⟨f0, f1, f2⟩ : W3.cell? ⟨g, 0, none⟩ = some (.string x00.key) ∧ W3.cell? ⟨g, 1, none⟩ = some (.int .u32 x00.page) ∧ W3.cell? ⟨g, 2, none⟩ = some (.int .i64 x00.slot) := by
    have hlt0 : 0 < (froms C).length := by omega
    obtain ⟨b', o', e', _, y0, y1, y2⟩ := hE3.ent hlt0
    simp only [Option.some.injEq, Addr.mk.injEq, and_true] at e'
    obtain ⟨rfl, rfl⟩ := e'
    have : (froms C)[0] = x00 := by have := List.getElem?_eq_getElem hlt0; rw [hx00] at this; simpa using this.symm
    rw [this] at y0 y1 y2
    exact ⟨by simpa using y0, by simpa using y1, by simpa using y2⟩
  have hmb : mb ≤ w.heap.size := Nat.le_of_lt h.met.lt
  have hc0i : (0 : Int) < (C.length : Int) := by omega
  have hc1i : (1 : Int) ≤ (C.length : Int) := by omega
  go_upto_region 9 with fail
  rcases hz with hz | ⟨x1, hx1, hkey⟩
  · have hx0 := hz x00 hx00
    rw [hx0] at f0 f1 f2
    simp only [zeroE] at f0 f1 f2
    have gf0 := cell_regrown f0
    have gf1 := cell_regrown f1
    have gf2 := cell_regrown f2
    obtain ⟨t0, t1, t2, t3, t4, t5, t6, tl⟩ := I3.s
    have gt0 := cell_regrown t0
    have gt1 := cell_regrown t1
    have gt2 := cell_regrown t2
    have gt3 := cell_regrown t3
    have gt4 := cell_regrown t4
    have gt5 := cell_regrown t5
    have gt6 := cell_regrown t6
    clear f0 f1 f2 t0 t1 t2 t3 t4 t5 t6 hx0
    by_cases hR : RisesE (froms C)
    · have cR : ∀ dd os, Calls Tryz.prog 98 #[.slice (some ⟨g, 0, none⟩) C.length cap] (grow (redrawn W3 dd) os) fun r w'' => r = .returned (.bool true) ∧ ∃ p : Regrown, w'' = grow (redrawn W3 p.d) p.os := fun dd os => Calls.regrown_of ((HRI.out _ (below_regrown W3 dd os)).mono (by
        rintro r w' ⟨⟨b, rfl, hb⟩, bb⟩
        rw [hb.2 hR]; exact ⟨rfl, bb⟩))
      have hRH := hidn hR
      have HZ := hidn hz
      clear hR hz hx00
      cases hany : ((froms C).drop 1).any (outS s) with
      | true =>
        have hnh := hidn (show ¬ (HeadOk s C ∧ ∀ i, KidOk Fs L s C i) from fun q => by have := q.1.2.2; rw [hany] at this; cases this)
        as_aux_lemma =>
        by_cases hcap : cap = 1
        · subst hcap
          have hCl0 := hidn (show C.length - 1 = 0 by have := HCF.out; omega)
          have hnil : (froms C).drop 1 = [] := List.drop_eq_nil_of_le (by rw [hFl]; have := HCF.out; omega)
          have cH : ∀ dd os, Calls Tryz.prog 99 #[.agg #[.string s.fr.key, .int .u32 s.fr.page, .int .i64 s.fr.slot, .string s.tt.key, .int .u32 s.tt.page, .int .i64 s.tt.slot, .bool s.op], .slice (some ⟨g, 0, none⟩) (C.length - 1) 0] (grow (redrawn W3 dd) os) fun r w'' => r = .returned (.bool false) ∧ ∃ p : Regrown, w'' = grow (redrawn W3 p.d) p.os := fun dd os => by
            have := HHO.out 0 0 (grow (redrawn W3 dd) os) (.inl hnil)
            rw [hany] at this
            exact Calls.regrown_of this
          have hFlH := hidn hFl
          clear hany hFl hnil
          refine wp_region_quiet_below nmixed (by kernel_rfl) ?_
          iterate 8 (quiet_step (first | (go_at_call 98; exact cR _ _)))
          iterate 9 (quiet_step (first | (go_at_call 99; exact cH _ _)))
          refine wpQuiet_nil ?_
          intro _ hw'
          obtain ⟨⟨dq, osq⟩, hw''⟩ := hw'
          have bb := hidn (below_regrown W3 dq osq)
          rw [hw'']
          generalize grow (redrawn W3 dq) osq = V9 at *
          go_wp2
          go_ret
          exact ⟨⟨false, rfl, by simpa using hnh.out, fun q => by cases q⟩, (below_chain B3 bb.out).mono hmb⟩
        · have hcap' : ¬ (1 = cap) := fun q => hcap q.symm
          have cH : ∀ dd os, Calls Tryz.prog 99 #[.agg #[.string s.fr.key, .int .u32 s.fr.page, .int .i64 s.fr.slot, .string s.tt.key, .int .u32 s.tt.page, .int .i64 s.tt.slot, .bool s.op], .slice (some ⟨g, 3, none⟩) (C.length - 1) (cap - 1)] (grow (redrawn W3 dd) os) fun r w'' => r = .returned (.bool false) ∧ ∃ p : Regrown, w'' = grow (redrawn W3 p.d) p.os := fun dd os => by
            have := HHO.out 3 (cap - 1) (grow (redrawn W3 dd) os) (ents_drop1 (hE3.below (below_regrown W3 dd os)))
            rw [hany] at this
            exact Calls.regrown_of this
          have hFlH := hidn hFl
          clear hany hFl
          refine wp_region_quiet_below nmixed (by kernel_rfl) ?_
          iterate 8 (quiet_step (first | (go_at_call 98; exact cR _ _)))
          iterate 9 (quiet_step (first | (go_at_call 99; exact cH _ _)))
          refine wpQuiet_nil ?_
          intro _ hw'
          obtain ⟨⟨dq, osq⟩, hw''⟩ := hw'
          have bb := hidn (below_regrown W3 dq osq)
          rw [hw'']
          generalize grow (redrawn W3 dq) osq = V9 at *
          go_wp2
          go_ret
          exact ⟨⟨false, rfl, by simpa using hnh.out, fun q => by cases q⟩, (below_chain B3 bb.out).mono hmb⟩
      | false =>
        have HHD : Hid (HeadOk s C) := ⟨HZ.out, hRH.out, hany⟩
        go_cut [53] from 37 to 52 (fun v53 wx => v53 = .bool false ∧ Hid (Below W3.heap.size W3 wx))
        case first =>
          as_aux_lemma =>
          by_cases hcap : cap = 1
          · subst hcap
            have hCl0 := hidn (show C.length - 1 = 0 by have := HCF.out; omega)
            have hnil : (froms C).drop 1 = [] := List.drop_eq_nil_of_le (by rw [hFl]; have := HCF.out; omega)
            have cH : ∀ dd os, Calls Tryz.prog 99 #[.agg #[.string s.fr.key, .int .u32 s.fr.page, .int .i64 s.fr.slot, .string s.tt.key, .int .u32 s.tt.page, .int .i64 s.tt.slot, .bool s.op], .slice (some ⟨g, 0, none⟩) (C.length - 1) 0] (grow (redrawn W3 dd) os) fun r w'' => r = .returned (.bool true) ∧ ∃ p : Regrown, w'' = grow (redrawn W3 p.d) p.os := fun dd os => by
              have := HHO.out 0 0 (grow (redrawn W3 dd) os) (.inl hnil)
              rw [hany] at this
              exact Calls.regrown_of this
            have hFlH := hidn hFl
            clear hany hFl hnil
            refine wp_region_quiet_below nmixed (by kernel_rfl) ?_
            iterate 8 (quiet_step (first | (go_at_call 98; exact cR _ _)))
            iterate 9 (quiet_step (first | (go_at_call 99; exact cH _ _)))
            refine wpQuiet_nil ?_
            intro _ hw'
            obtain ⟨⟨dq, osq⟩, hw''⟩ := hw'
            have bb := hidn (below_regrown W3 dq osq)
            rw [hw'']
            generalize grow (redrawn W3 dq) osq = V9 at *
            go_wp2
            go_meet
            case rel => exact ⟨rfl, bb⟩
          · have hcap' : ¬ (1 = cap) := fun q => hcap q.symm
            have cH : ∀ dd os, Calls Tryz.prog 99 #[.agg #[.string s.fr.key, .int .u32 s.fr.page, .int .i64 s.fr.slot, .string s.tt.key, .int .u32 s.tt.page, .int .i64 s.tt.slot, .bool s.op], .slice (some ⟨g, 3, none⟩) (C.length - 1) (cap - 1)] (grow (redrawn W3 dd) os) fun r w'' => r = .returned (.bool true) ∧ ∃ p : Regrown, w'' = grow (redrawn W3 p.d) p.os := fun dd os => by
              have := HHO.out 3 (cap - 1) (grow (redrawn W3 dd) os) (ents_drop1 (hE3.below (below_regrown W3 dd os)))
              rw [hany] at this
              exact Calls.regrown_of this
            have hFlH := hidn hFl
            clear hany hFl
            refine wp_region_quiet_below nmixed (by kernel_rfl) ?_
            iterate 8 (quiet_step (first | (go_at_call 98; exact cR _ _)))
            iterate 9 (quiet_step (first | (go_at_call 99; exact cH _ _)))
            refine wpQuiet_nil ?_
            intro _ hw'
            obtain ⟨⟨dq, osq⟩, hw''⟩ := hw'
            have bb := hidn (below_regrown W3 dq osq)
            rw [hw'']
            generalize grow (redrawn W3 dq) osq = V9 at *
            go_wp2
            go_meet
            case rel => exact ⟨rfl, bb⟩
        obtain ⟨rfl, HB4⟩ := hcut
        obtain ⟨W4, HW4⟩ : ∃ W, W = wc := ⟨_, rfl⟩
        rw [← HW4] at HB4 ⊢
        clear HW4 gf0 gf1 gf2 gt0 gt1 gt2 gt3 gt4 gt5 gt6 cR
        have I4 := I3.below HB4.out
        have C4 := C3.below HB4.out
        have hE4 := hE3.below HB4.out
        have B4 := below_chain B3 HB4.out
        have hgl : g < W3.heap.size := HO.out.lt
        have hgf : W.heap.size ≤ g := HO.out.from
        have hXl4 := I4.s.lt
        have hwW := b1.size
        have hS1 : W3.heap.size ≤ W4.heap.size := HB4.out.size
        have H0 : Hid (KLoop Fs w W4 W4.heap.size cb p A P l d L mb n lv a c C s g pv 0 pv D next false) :=
          ⟨by simpa using C4, I4, hE4, B4.mono hmb, fun q hq => .inl hq, .inl ⟨rfl, rfl⟩, fun i hi => by omega, Nat.le_refl _⟩
        have HFA : Hid (∀ b o, a = some ⟨b, o, none⟩ → b ≠ mb ∧ b ≠ cb ∧ pv.ownBlock ≠ some b) := hfar
        clear hfar hE3 I3 C3 HHO HRI HO hRH HZ I1 C1 hO0 hB0 hmk hcur I4 C4 hE4
        obtain ⟨z0, z1, z2, z3, z4⟩ := H0.out.ib.x.cells5
        have hcbw : cb < w.heap.size := h.box.lt
        have hmcb : mb < cb := h.mc
        have HRW : Hid (∀ q, pv.ownBlock = some q → q < w.heap.size) := fun q hq => (h.row.lt q hq).2
        go_wp2_with fail
        go_loopw [57] (fun i wr => ∃ (k : Nat) (pvk : Value) (Dk : DataW Value) (nxk : Nat) (lnk : Bool), k ≤ C.length ∧ i = .int .i64 k ∧ Hid (KLoop Fs w wr W4.heap.size cb p A P l d L mb n lv a c C s g pv k pvk Dk nxk lnk)) (fun i _ => C.length - (intOf i).toNat)
        case atStart => exact ⟨0, pv, D, next, false, by omega, rfl, H0⟩
        case round =>
          clear z0 z1 z2 z3 z4 H0
          obtain ⟨k, pvk, Dk, nxk, lnk, hk, rfl, HK⟩ := hrel
          by_cases hlt : k < C.length
          · have hi0 : (0 : Int) ≤ (k : Int) := by omega
            have hi1 : (k : Int) < (C.length : Int) := by omega
            obtain ⟨bb, o, rfl, hb, d0, d1, d2, d3⟩ := HK.out.ib.kids.child hlt
            have hbbw : bb < w.heap.size := by
              obtain ⟨b', o', e', hb', _⟩ := hC.child hlt
              simp only [Option.some.injEq, Addr.mk.injEq, and_true] at e'
              omega
            obtain ⟨y, hy⟩ : ∃ y, C[k] = y := ⟨_, rfl⟩
            obtain ⟨hpg, f, hPf, hfs, hfit, hB⟩ := hP C[k] (List.getElem_mem hlt)
            have hCk : C[k]? = some C[k] := List.getElem?_eq_getElem hlt
            have htk : (C.take (k + 1)).map ChildV.page = (C.take k).map ChildV.page ++ [C[k].page] := by rw [List.take_succ_eq_append_getElem hlt, List.map_append]; rfl
            rw [hy] at d0 d1 d2 d3 hpg hPf hfs hCk htk
            have HCk := hidn hCk
            have HTK := hidn htk
            have HFS := hidn hfs
            clear hCk htk hy
            obtain ⟨ps, Hps⟩ : ∃ ps, Hid (partS s (froms C) k = ps) := ⟨_, rfl⟩
            obtain ⟨W11, HW11⟩ : ∃ W, Hid (W = wr.alloc (.cells #[.int .u32 y.page, .string y.e.key, .int .u32 y.e.page, .int .i64 y.e.slot] 74)) := ⟨_, rfl⟩
            have b11 : Below wr.heap.size wr W11 := by rw [HW11.out]; exact (Below.refl _ _).alloc (Nat.le_refl _) _
            have y11 : W11.cell? ⟨wr.heap.size, 0, none⟩ = some (.int .u32 y.page) := by rw [HW11.out]; simp
            have hz11 : wr.heap.size < W11.heap.size := by rw [HW11.out]; simp
            have K11 := hidn (HK.out.below b11)
            have hZr := HK.out.gz
            have HOF : Hid (∀ b0, (w.heap.size ≤ b0 ∧ b0 < W4.heap.size) ∨ b0 = bb ∨ b0 = wr.heap.size → ¬ CkS mb cb pvk b0) := by
              intro b0 hb0 hs
              have hrl := HK.out.ck.row.lt
              rcases hs with e | e | e
              · rcases hb0 with q | q | q
                · omega
                · exact (HFA.out bb o rfl).1 (q ▸ e)
                · have := HK.out.ck.met.lt; omega
              · rcases hb0 with q | q | q
                · omega
                · exact (HFA.out bb o rfl).2.1 (q ▸ e)
                · have := HK.out.ck.box.lt; omega
              · rcases hb0 with q | q | q
                · rcases HK.out.far b0 e with r | r
                  · have := HRW.out b0 r; omega
                  · omega
                · rcases HK.out.far b0 e with r | r
                  · exact (HFA.out bb o rfl).2.2 (q ▸ r)
                  · omega
                · have := (hrl b0 e).2; omega
            have HPA : Hid (∀ V, Below W11.heap.size W11 V → Calls Tryz.prog 100 #[s.val, .slice (some ⟨g, 0, none⟩) C.length cap, .int .i64 k] V fun r w' => r = .returned ps.val ∧ Below V.heap.size V w') := fun V hV => by
              have := part_any (some ⟨g, 0, none⟩) cap (froms C) s k V (K11.out.fr.below hV) (by rw [hFl]; exact hlt) (by rw [hFl]; omega)
              rw [hFl, Hps.out] at this
              exact this
            simp only [SpanV.val] at HPA
            obtain ⟨v0, v1, v2, v3, v4⟩ := K11.out.ib.x.cells5
            obtain ⟨t0, t1, t2, t3, t4, t5, t6, tl⟩ := K11.out.ib.s
            have hxl := World.block_lt_of_cell? _ _ v0
            have hll : (L ++ (C.take k).map ChildV.page).length < 64 := by rw [List.length_append, List.length_map, List.length_take]; omega
            go_upto_region 14 with fail
            rw [← HW11.out]
            clear HW11 d0 d1 d2 d3 v0 v2 v3 v4
            by_cases hin : y.page ∈ L ++ (C.take k).map ChildV.page
            · have HPG : Hid (∀ V, Below W11.heap.size W11 V → Calls Tryz.prog 29 #[.pointer (some ⟨cb, 0, none⟩), .int .u32 y.page, .int .i64 0, ps.val] V fun r w' => r = .returned (.bool false) ∧ Below V.heap.size V w') := fun V hV => page_again (K11.out.ck.below hV) y.page (by omega) 0 ps hin
              simp only [SpanV.val] at HPG
              have hnh := hidn (show ¬ (HeadOk s C ∧ ∀ i, KidOk Fs L s C i) from fun q => (q.2 k y HCk.out).1 hin)
              clear hin
              have hmW : mb ≤ W11.heap.size := Nat.le_of_lt K11.out.ck.met.lt
              have HS : Hid (∀ V : World, V.heap[wr.heap.size]? = W11.heap[wr.heap.size]? → V.heap[w.heap.size]? = W11.heap[w.heap.size]? → V.heap[w.heap.size + 1]? = W11.heap[w.heap.size + 1]? → (fun wy => wy.cell? ⟨wr.heap.size, 0, none⟩ = some (.int .u32 y.page) ∧ wy.cell? ⟨w.heap.size, 1, none⟩ = some (.int .i64 lv) ∧ wy.cell? ⟨w.heap.size + 1, 0, none⟩ = some (.string s.fr.key) ∧ wy.cell? ⟨w.heap.size + 1, 1, none⟩ = some (.int .u32 s.fr.page) ∧ wy.cell? ⟨w.heap.size + 1, 2, none⟩ = some (.int .i64 s.fr.slot) ∧ wy.cell? ⟨w.heap.size + 1, 3, none⟩ = some (.string s.tt.key) ∧ wy.cell? ⟨w.heap.size + 1, 4, none⟩ = some (.int .u32 s.tt.page) ∧ wy.cell? ⟨w.heap.size + 1, 5, none⟩ = some (.int .i64 s.tt.slot) ∧ wy.cell? ⟨w.heap.size + 1, 6, none⟩ = some (.bool s.op)) V) := fun V e1 e2 e3 =>
                ⟨(World.cell?_of_block (w := W11) (a := ⟨wr.heap.size, 0, none⟩) e1).trans y11, (World.cell?_of_block (w := W11) (a := ⟨w.heap.size, 1, none⟩) e2).trans v1, (World.cell?_of_block (w := W11) (a := ⟨w.heap.size + 1, 0, none⟩) e3).trans t0, (World.cell?_of_block (w := W11) (a := ⟨w.heap.size + 1, 1, none⟩) e3).trans t1, (World.cell?_of_block (w := W11) (a := ⟨w.heap.size + 1, 2, none⟩) e3).trans t2, (World.cell?_of_block (w := W11) (a := ⟨w.heap.size + 1, 3, none⟩) e3).trans t3, (World.cell?_of_block (w := W11) (a := ⟨w.heap.size + 1, 4, none⟩) e3).trans t4, (World.cell?_of_block (w := W11) (a := ⟨w.heap.size + 1, 5, none⟩) e3).trans t5, (World.cell?_of_block (w := W11) (a := ⟨w.heap.size + 1, 6, none⟩) e3).trans t6⟩
              have bD : Below W11.heap.size W11 W11.drew := (Below.refl _ _).drew
              go_region_held3 (fun wy => wy.cell? ⟨wr.heap.size, 0, none⟩ = some (.int .u32 y.page) ∧ wy.cell? ⟨w.heap.size, 1, none⟩ = some (.int .i64 lv) ∧ wy.cell? ⟨w.heap.size + 1, 0, none⟩ = some (.string s.fr.key) ∧ wy.cell? ⟨w.heap.size + 1, 1, none⟩ = some (.int .u32 s.fr.page) ∧ wy.cell? ⟨w.heap.size + 1, 2, none⟩ = some (.int .i64 s.fr.slot) ∧ wy.cell? ⟨w.heap.size + 1, 3, none⟩ = some (.string s.tt.key) ∧ wy.cell? ⟨w.heap.size + 1, 4, none⟩ = some (.int .u32 s.tt.page) ∧ wy.cell? ⟨w.heap.size + 1, 5, none⟩ = some (.int .i64 s.tt.slot) ∧ wy.cell? ⟨w.heap.size + 1, 6, none⟩ = some (.bool s.op))
                (first | (go_keep; done) | exact S13 | exact S12)
                (first
                  | (go_at_call 100; refine (HPA.out _ (by first | exact Below.refl _ _ | exact bD)).mono ?_; rintro r1 w12 ⟨rfl, b12⟩
                     have q12 : Below W11.heap.size W11 w12 := by first | exact b12 | exact below_chain bD b12
                     have S12 := HS.out w12 (q12.block _ hz11) (q12.block _ hxl) (q12.block _ tl))
                  | (go_at_call 29; refine (HPG.out _ (by first | exact q12 | exact q12.drew)).mono ?_; rintro r2 w13 ⟨rfl, b13⟩
                     have q13 : Below W11.heap.size W11 w13 := by first | exact below_chain q12 b13 | exact below_chain q12.drew b13
                     have S13 := HS.out w13 (q13.block _ hz11) (q13.block _ hxl) (q13.block _ tl)))
              all_goals
                have bb13 := hidn (K11.out.bel.trans (q13.mono hmW))
                clear S13 S12
                go_wp2
                go_ret
                exact ⟨⟨false, rfl, by simpa using hnh.out, fun q => by cases q⟩, bb13.out⟩
            · have HPG : Hid (∀ V, Below W11.heap.size W11 V → Calls Tryz.prog 29 #[.pointer (some ⟨cb, 0, none⟩), .int .u32 y.page, .int .i64 0, ps.val] V fun r w' => (∃ b : Bool, r = .returned (.bool b) ∧ (b = true ↔ (lnk = false ∨ nxk = y.page) ∧ LeafOk ps (leafL f.sh)) ∧ (b = true → ∃ pv' D', CkAt w' cb p A P l d pv' ((L ++ (C.take k).map ChildV.page) ++ [y.page]) mb D' (nextF f.sh) true ∧ ∀ q, pv'.ownBlock = some q → pvk.ownBlock = some q ∨ V.heap.size ≤ q)) ∧ Kept (CkS mb cb pvk) V w') := fun V hV => page_leaf (K11.out.ck.below hV) y.page hpg.1 hpg.2 hin hll hPf hfit hB ps
              simp only [SpanV.val] at HPG
              have hinH := hidn hin
              clear hin
              have hW4w : w.heap.size + 1 < W4.heap.size := by omega
              have hmW : mb ≤ W11.heap.size := Nat.le_of_lt K11.out.ck.met.lt
              have HS : Hid (∀ V : World, V.heap[wr.heap.size]? = W11.heap[wr.heap.size]? → V.heap[w.heap.size]? = W11.heap[w.heap.size]? → V.heap[w.heap.size + 1]? = W11.heap[w.heap.size + 1]? → (fun wy => wy.cell? ⟨wr.heap.size, 0, none⟩ = some (.int .u32 y.page) ∧ wy.cell? ⟨w.heap.size, 1, none⟩ = some (.int .i64 lv) ∧ wy.cell? ⟨w.heap.size + 1, 0, none⟩ = some (.string s.fr.key) ∧ wy.cell? ⟨w.heap.size + 1, 1, none⟩ = some (.int .u32 s.fr.page) ∧ wy.cell? ⟨w.heap.size + 1, 2, none⟩ = some (.int .i64 s.fr.slot) ∧ wy.cell? ⟨w.heap.size + 1, 3, none⟩ = some (.string s.tt.key) ∧ wy.cell? ⟨w.heap.size + 1, 4, none⟩ = some (.int .u32 s.tt.page) ∧ wy.cell? ⟨w.heap.size + 1, 5, none⟩ = some (.int .i64 s.tt.slot) ∧ wy.cell? ⟨w.heap.size + 1, 6, none⟩ = some (.bool s.op)) V) := fun V e1 e2 e3 =>
                ⟨(World.cell?_of_block (w := W11) (a := ⟨wr.heap.size, 0, none⟩) e1).trans y11, (World.cell?_of_block (w := W11) (a := ⟨w.heap.size, 1, none⟩) e2).trans v1, (World.cell?_of_block (w := W11) (a := ⟨w.heap.size + 1, 0, none⟩) e3).trans t0, (World.cell?_of_block (w := W11) (a := ⟨w.heap.size + 1, 1, none⟩) e3).trans t1, (World.cell?_of_block (w := W11) (a := ⟨w.heap.size + 1, 2, none⟩) e3).trans t2, (World.cell?_of_block (w := W11) (a := ⟨w.heap.size + 1, 3, none⟩) e3).trans t3, (World.cell?_of_block (w := W11) (a := ⟨w.heap.size + 1, 4, none⟩) e3).trans t4, (World.cell?_of_block (w := W11) (a := ⟨w.heap.size + 1, 5, none⟩) e3).trans t5, (World.cell?_of_block (w := W11) (a := ⟨w.heap.size + 1, 6, none⟩) e3).trans t6⟩
              have bD : Below W11.heap.size W11 W11.drew := (Below.refl _ _).drew
              go_region_held3 (fun wy => wy.cell? ⟨wr.heap.size, 0, none⟩ = some (.int .u32 y.page) ∧ wy.cell? ⟨w.heap.size, 1, none⟩ = some (.int .i64 lv) ∧ wy.cell? ⟨w.heap.size + 1, 0, none⟩ = some (.string s.fr.key) ∧ wy.cell? ⟨w.heap.size + 1, 1, none⟩ = some (.int .u32 s.fr.page) ∧ wy.cell? ⟨w.heap.size + 1, 2, none⟩ = some (.int .i64 s.fr.slot) ∧ wy.cell? ⟨w.heap.size + 1, 3, none⟩ = some (.string s.tt.key) ∧ wy.cell? ⟨w.heap.size + 1, 4, none⟩ = some (.int .u32 s.tt.page) ∧ wy.cell? ⟨w.heap.size + 1, 5, none⟩ = some (.int .i64 s.tt.slot) ∧ wy.cell? ⟨w.heap.size + 1, 6, none⟩ = some (.bool s.op))
                (first | (go_keep; done) | exact S13 | exact S12)
                (first
                  | (go_at_call 100; refine (HPA.out _ (by first | exact Below.refl _ _ | exact bD)).mono ?_; rintro r1 w12 ⟨rfl, b12⟩
                     have q12 : Below W11.heap.size W11 w12 := by first | exact b12 | exact below_chain bD b12
                     have S12 := HS.out w12 (q12.block _ hz11) (q12.block _ hxl) (q12.block _ tl))
                  | (go_at_call 29; refine (HPG.out _ (by first | exact q12 | exact q12.drew)).mono ?_; rintro r2 w13 ⟨⟨b, rfl, hbi, hst⟩, k13⟩
                     have kk13 : ∀ b0, b0 < W11.heap.size → ¬ CkS mb cb pvk b0 → w13.heap[b0]? = W11.heap[b0]? := fun b0 hb0 hs => (by first | exact (k13.block b0 (Nat.lt_of_lt_of_le hb0 q12.size) hs).trans (q12.block b0 hb0) | exact (k13.block b0 (Nat.lt_of_lt_of_le hb0 q12.drew.size) hs).trans (q12.drew.block b0 hb0))
                     have S13 := HS.out w13 (kk13 _ hz11 (HOF.out _ (.inr (.inr rfl)))) (kk13 _ hxl (HOF.out _ (.inl ⟨Nat.le_refl _, by omega⟩))) (kk13 _ tl (HOF.out _ (.inl ⟨by omega, by omega⟩)))))
              all_goals
                have hkid : Hid (b = true ↔ KidOk Fs L s C k) := by
                  show _ ↔ _
                  rw [hbi]
                  constructor
                  · rintro ⟨q1, q2⟩ x hx
                    obtain rfl : y = x := by rw [HCk.out] at hx; simpa using hx
                    refine ⟨hinH.out, fun y' h0' hy' => ?_, by rw [Hps.out, ← HFS.out]; exact q2⟩
                    rcases HK.out.lnk with ⟨e, _⟩ | ⟨_, e2, e3⟩
                    · omega
                    · rcases q1 with q1 | q1
                      · rw [e2] at q1; cases q1
                      · rw [← e3 y' hy']; exact q1
                  · intro q
                    obtain ⟨_, q2, q3⟩ := q y HCk.out
                    refine ⟨?_, by rw [HFS.out, ← Hps.out]; exact q3⟩
                    rcases HK.out.lnk with ⟨_, e⟩ | ⟨e1, _, e3⟩
                    · exact .inl e
                    · right
                      have hlt' : k - 1 < C.length := by omega
                      have hg' := List.getElem?_eq_getElem hlt'
                      rw [e3 _ hg']
                      exact q2 _ e1 hg'
                have bel13 : Hid (Below mb w w13) := by
                  have e1 := K11.out.bel
                  refine ⟨?_, ?_, ?_, ?_, fun q hq => ?_⟩
                  · exact k13.os.trans ((by first | exact q12.os | exact q12.drew.os : _ = W11.os).trans e1.os)
                  · exact k13.tape.trans ((by first | exact q12.tape | exact q12.drew.tape : _ = W11.tape).trans e1.tape)
                  · exact k13.output.trans ((by first | exact q12.output | exact q12.drew.output : _ = W11.output).trans e1.output)
                  · exact Nat.le_trans e1.size (Nat.le_trans (by first | exact q12.size | exact q12.drew.size) k13.size)
                  · rw [kk13 q (by omega) (fun hs => by
                      rcases hs with e | e | e
                      · omega
                      · omega
                      · have := (HK.out.ck.row.lt q e).1; omega), e1.block q hq]
                have hz13 : W11.heap.size ≤ w13.heap.size := Nat.le_trans (by first | exact q12.size | exact q12.drew.size) k13.size
                cases b with
                | false =>
                  have hnh := hidn (show ¬ (HeadOk s C ∧ ∀ i, KidOk Fs L s C i) from fun q => by have := hkid.out.2 (q.2 k); cases this)
                  clear S13 S12 hbi hst k13 kk13 hkid
                  go_wp2
                  go_ret
                  exact ⟨⟨false, rfl, by simpa using hnh.out, fun q => by cases q⟩, bel13.out⟩
                | true =>
                  obtain ⟨pv', D2, hck2, hfar2⟩ := hst rfl
                  have K14 : Hid (KLoop Fs w w13 W4.heap.size cb p A P l d L mb n lv (some ⟨bb, o, none⟩) c C s g pv (k + 1) pv' D2 (nextF f.sh) true) := by
                    have eg : w13.heap[g]? = W11.heap[g]? := kk13 g (by omega) (HOF.out _ (.inl ⟨by omega, by omega⟩))
                    refine ⟨by rw [HTK.out, ← List.append_assoc]; exact hck2, K11.out.ib.keep (kk13 _ hxl (HOF.out _ (.inl ⟨Nat.le_refl _, by omega⟩))) (kk13 _ tl (HOF.out _ (.inl ⟨by omega, by omega⟩))) (fun b' o' e' _ hb' => kk13 b' hb' (HOF.out _ (.inr (.inl (by simp only [Option.some.injEq, Addr.mk.injEq, and_true] at e'; exact e'.1.symm))))) hz13, ?_, bel13.out, fun q hq => ?_, .inr ⟨by omega, rfl, fun y' h' => ?_⟩, fun i hi => ?_, by omega⟩
                    · rcases K11.out.fr with q | ⟨b', o', e', hb', hc'⟩
                      · exact .inl q
                      · simp only [Option.some.injEq, Addr.mk.injEq, and_true] at e'
                        obtain ⟨rfl, rfl⟩ := e'
                        exact .inr ⟨g, 0, rfl, by omega, fun i hi j v hv => (World.cell?_of_block (w := W11) (a := ⟨g, 0 + i * 3 + j, none⟩) eg).trans (hc' i hi j v hv)⟩
                    · rcases hfar2 q hq with r | r
                      · exact HK.out.far q r
                      · right
                        have r' : w12.heap.size ≤ q := r
                        have := q12.size
                        omega
                    · rw [show k + 1 - 1 = k by omega, HCk.out] at h'
                      obtain rfl : y = y' := by simpa using h'
                      rw [HFS.out]
                    · by_cases hik : i = k
                      · subst hik; exact hkid.out.1 rfl
                      · exact HK.out.ok i (by omega)
                  clear S13 S12 hbi hst k13 kk13 hkid hck2 hfar2
                  go_wp2
                  go_roundw
                  case rel => exact ⟨k + 1, pv', D2, nextF f.sh, true, by omega, by go_num, K14⟩
                  case measure => simp [intOf]; omega
          · obtain rfl : k = C.length := by omega
            have hck := HK.out.ck
            rw [List.take_length] at hck
            obtain ⟨_, hln, hnx⟩ : 0 < C.length ∧ lnk = true ∧ ∀ y, C[C.length - 1]? = some y → nxk = nextF (Fs y.page) := by
              rcases HK.out.lnk with ⟨e, _⟩ | e
              · omega
              · exact e
            subst hln
            have hall := hidn (show HeadOk s C ∧ ∀ i, KidOk Fs L s C i from ⟨HHD.out, fun i => by
              by_cases hi : i < C.length
              · exact HK.out.ok i hi
              · intro x hx; rw [List.getElem?_eq_none (by omega)] at hx; cases hx⟩)
            have hbl := hidn HK.out.bel
            have hfin := hidn (show ∃ pv' D' nx, CkAt wr cb p A P l d pv' (L ++ C.map ChildV.page) mb D' nx true ∧ ∀ y, C[C.length - 1]? = some y → nx = nextF (Fs y.page) from ⟨pvk, Dk, nxk, hck, hnx⟩)
            clear hck hnx HK
            go_wp2
            go_ret
            exact ⟨⟨true, rfl, by simpa using hall.out, fun _ => hfin.out⟩, hbl.out⟩
    · have cR : ∀ dd os, Calls Tryz.prog 98 #[.slice (some ⟨g, 0, none⟩) C.length cap] (grow (redrawn W3 dd) os) fun r w'' => r = .returned (.bool false) ∧ ∃ p : Regrown, w'' = grow (redrawn W3 p.d) p.os := fun dd os => Calls.regrown_of ((HRI.out _ (below_regrown W3 dd os)).mono (by
        rintro r w' ⟨⟨b, rfl, hb⟩, bb⟩
        have : b = false := by cases b with
          | false => rfl
          | true => exact absurd (hb.1 rfl) hR
        rw [this]; exact ⟨rfl, bb⟩))
      have hnh := hidn (show ¬ (HeadOk s C ∧ ∀ i, KidOk Fs L s C i) from fun q => hR q.1.2.1)
      clear hR
      refine wp_region_quiet_below nmixed (by kernel_rfl) ?_
      iterate 17 (quiet_step (first | (go_at_call 98; exact cR _ _)))
      refine wpQuiet_nil ?_
      intro _ hw'
      obtain ⟨⟨dq, osq⟩, hw''⟩ := hw'
      have bb := hidn (below_chain B3 (below_regrown W3 dq osq))
      rw [hw'']
      generalize grow (redrawn W3 dq) osq = V9 at *
      go_wp2
      go_ret
      exact ⟨⟨false, rfl, by simpa using hnh.out, fun q => by cases q⟩, bb.out.mono hmb⟩
  · rw [hx00] at hx1
    obtain rfl : x00 = x1 := by simpa using hx1
    have hnh := hidn (show ¬ (HeadOk s C ∧ ∀ i, KidOk Fs L s C i) from fun q => hkey (by rw [q.1.1 x00 hx00]; unfold zeroE; rw [ByteArray.toList_eq]))
    have hke : ¬ (x00.key.toList = []) := hkey
    go_quiet (fail)
    go_wp2
    go_ret
    exact ⟨⟨false, rfl, by simpa using hnh.out, fun q => by cases q⟩, by show RowKit.Below _ _ _; exact (below_drewN B3 _).mono hmb⟩

end

end Go.Proofs.YtpllidadpcahbaaGreat
