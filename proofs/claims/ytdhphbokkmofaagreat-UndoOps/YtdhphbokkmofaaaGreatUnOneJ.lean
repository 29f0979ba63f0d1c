/-
  The walks of undo.One of a change that is taken back by its page, of With and what it makes, of Abort.
-/
import Derived.Test.YtdhphbokkmofaaaGreatUnPageC
import Derived.Test.YtdhphbokkmofaaaGreatRecLongJ
import Derived.Test.YtdhphbokkmofaaaGreatSpaceBitsJ
import Derived.Test.YtdhphbokkmofaaaGreatBackMathJ
import Derived.Deep.RegionWith
set_option linter.unusedVariables false
set_option linter.unusedSimpArgs false
namespace Go.Proofs.YtdhphbokkmofaaaGreat
open Go.RowKit Go.Sort

section
variable {w : World} {m p : Nat} {X : Int → Nat} {A : Nat → Prop} {P : PG} {l : LG} {d : DG} {M : MgG}

set_option maxHeartbeats 6400000 in
set_option maxRecDepth 20000 in
theorem uone_any (n : Int) (r : RecV) (ta da : Option Addr) (tc dc : Nat) (hk : r.kind = 1) (hu : r.undo = 1) (Q : Ending → World → Prop)
    (hby : ∀ wx, Below w.heap.size w wx → Calls Tryz.prog 59 #[.pointer (some ⟨m, 0, none⟩), .int .i64 n, .agg (r.cells ta da tc dc)] wx fun e w' => e = .returned (.int .i64 0) ∧ Q e w') :
    Calls Tryz.prog 19 #[.pointer (some ⟨m, 0, none⟩), .int .i64 n, .agg (r.cells ta da tc dc)] w fun e w' => e = .returned (.int .i64 0) ∧ Q e w' := by
  have HPAR : Hid (r.cells ta da tc dc = #[.int .i64 r.kind, .int .i64 r.tx, .int .u64 r.prev, .int .u64 r.next, .int .u32 r.page, .int .i64 r.op.kind, .int .i64 r.op.at', .string r.op.S, .string r.op.old, .int .i64 r.undo, .int .i64 r.index, .string r.key, .int .u32 r.rpage, .int .i64 r.rslot, .bool r.live, .slice ta r.txs.length tc, .slice da r.dirty.length dc]) := rfl
  obtain ⟨W, HW⟩ : ∃ W, Hid (W = w.alloc (.cells (r.cells ta da tc dc) 54)) := ⟨_, rfl⟩
  have bW : Below w.heap.size w W := by rw [HW.out]; exact (Below.refl _ _).alloc (Nat.le_refl _) _
  have HXW : Hid (BlkR W w.heap.size (r.cells ta da tc dc) 54) := by show BlkR _ _ _ _; rw [HW.out]; exact heap_alloc_new w _
  have HBY := hidx (hby W bW)
  have c0 : W.cell? ⟨w.heap.size, 0, none⟩ = some (.int .i64 1) := by rw [← hk]; exact BlkR.cell HXW.out 0
  have c9 : W.cell? ⟨w.heap.size, 9, none⟩ = some (.int .i64 1) := by rw [← hu]; exact BlkR.cell HXW.out 9
  clear hby bW hk hu
  rw [HPAR.out]
  go_enter Tryz.func19, Tryz.ntmps19
  go_upto_region 1 with fail
  rw [← HPAR.out, ← HW.out]
  clear HW HPAR
  go_upto_region 7 with fail
  clear c0 c9
  refine wp_region_lit ?_
  refine wpList_plain rfl fun K hK => ?_
  go_simp
  refine hK _ _ ?_
  clear hK K
  refine wpList_plain rfl fun K hK => ?_
  go_simp
  refine hK _ _ ?_
  clear hK K
  refine wpList_loadRow rfl _ _ rfl w.heap.size rfl (r.cells ta da tc dc) _ (0, 0) HXW.out _ Tryz.underlying54 rfl (by kernel_rfl) ?_
  go_wp2_with fail
  refine HBY.out.mono ?_
  rintro e w8 ⟨rfl, h8⟩
  have H8 := hidx h8
  clear HBY h8 HXW
  go_wp2_with fail
  refine bodyPost_ret (v := .int .i64 0) (by simp [results, Tryz.results19, go_sem]) rfl ?_
  exact ⟨rfl, H8.out⟩

set_option maxHeartbeats 6400000 in
set_option maxRecDepth 20000 in
theorem uwith1_any (mb : Nat) (hmb : w.cell? ⟨mb, 0, none⟩ = some (.pointer (some ⟨m, 0, none⟩))) (n : Int) (r : RecV) (ta da : Option Addr) (tc dc : Nat) (Q : Ending → World → Prop)
    (hone : ∀ wx, Below w.heap.size w wx → Calls Tryz.prog 19 #[.pointer (some ⟨m, 0, none⟩), .int .i64 n, .agg (r.cells ta da tc dc)] wx fun e w' => e = .returned (.int .i64 0) ∧ Q e w') :
    Calls Tryz.prog 167 #[.int .i64 n, .agg (r.cells ta da tc dc), .pointer (some ⟨mb, 0, none⟩)] w fun e w' => e = .returned (.int .i64 0) ∧ Q e w' := by
  have HPAR : Hid (r.cells ta da tc dc = #[.int .i64 r.kind, .int .i64 r.tx, .int .u64 r.prev, .int .u64 r.next, .int .u32 r.page, .int .i64 r.op.kind, .int .i64 r.op.at', .string r.op.S, .string r.op.old, .int .i64 r.undo, .int .i64 r.index, .string r.key, .int .u32 r.rpage, .int .i64 r.rslot, .bool r.live, .slice ta r.txs.length tc, .slice da r.dirty.length dc]) := rfl
  obtain ⟨W, HW⟩ : ∃ W, Hid (W = w.alloc (.cells (r.cells ta da tc dc) 54)) := ⟨_, rfl⟩
  have bW : Below w.heap.size w W := by rw [HW.out]; exact (Below.refl _ _).alloc (Nat.le_refl _) _
  have HXW : Hid (BlkR W w.heap.size (r.cells ta da tc dc) 54) := by show BlkR _ _ _ _; rw [HW.out]; exact heap_alloc_new w _
  have HBY := hidx (hone W bW)
  have c0 : W.cell? ⟨mb, 0, none⟩ = some (.pointer (some ⟨m, 0, none⟩)) := (bW.cell (p := ⟨mb, 0, none⟩) (World.block_lt_of_cell? _ _ hmb)).trans hmb
  clear hone bW hmb
  rw [HPAR.out]
  go_enter Tryz.func167, Tryz.ntmps167
  go_upto_region 1 with fail
  rw [← HPAR.out, ← HW.out]
  clear HW HPAR
  refine wp_region_lit ?_
  refine wpList_plain rfl fun K hK => ?_
  go_simp
  refine hK _ _ ?_
  clear hK K
  refine wpList_plain rfl fun K hK => ?_
  go_simp
  refine hK _ _ ?_
  clear hK K
  refine wpList_loadRow rfl _ _ rfl w.heap.size rfl (r.cells ta da tc dc) _ (0, 0) HXW.out _ Tryz.underlying54 rfl (by kernel_rfl) ?_
  go_wp2_with fail
  refine HBY.out.mono ?_
  rintro e w8 ⟨rfl, h8⟩
  have H8 := hidx h8
  clear HBY h8 HXW c0
  go_wp2_with fail
  refine bodyPost_ret (v := .int .i64 0) (by simp [results, Tryz.results167, go_sem]) rfl ?_
  exact ⟨rfl, H8.out⟩

def CLu : UpN → SheetV → Prop := fun x s => x.r.undo = 1 ∧ uopE s x.r = 0 ∧ uopO s x.r = x.inv
def Bu (m mb : Nat) : World → (Nat → Prop) → Prop := fun w A => w.cell? ⟨mb, 0, none⟩ = some (.pointer (some ⟨m, 0, none⟩)) ∧ ¬ A mb

set_option maxRecDepth 20000 in
theorem clo_undo (m p : Nat) (X : Int → Nat) (d : DG) (n mb : Nat) : Clo m p X d n 167 (.pointer (some ⟨mb, 0, none⟩)) (Bu m mb) CLu := by
  refine ⟨fun {wx wy A A'} h mv => ?_, fun v wx => rfl, fun {wz A1 P1 l1 M1} x f ta da tc dc at' P' l' M' hM hB hup hf hfit hnum hcl hcomp => ?_⟩
  · have ho := mv.off (World.block_lt_of_cell? _ _ h.1) h.2
    exact ⟨(World.cell?_of_block (w := wx) (a := ⟨mb, 0, none⟩) ho.1).trans h.1, ho.2⟩
  · refine (uwith1_any mb hB.1 n x.r ta da tc dc (fun _ w' => ∃ A', MSys w' m p X A' P' l' d M' ∧ Moves A1 A' wz w') fun wx bx => ?_)
    refine (uone_any n x.r ta da tc dc hup.kind hcl.1 (fun _ w' => ∃ A', MSys w' m p X A' P' l' d M' ∧ Moves A1 A' wz w') fun wy byy => ?_)
    have bz := below_chain bx byy
    refine (ubyPage_any (hM.below bz) n x.r ta da tc dc at' P' l' M' x.inv hf hfit hup.pg.1 hup.pg.2 hup.oop hcl.2.1 hcl.2.2 (fun wq bq => hcomp wq (below_chain bz bq))).mono ?_
    rintro e w' ⟨rfl, A', g, mv⟩
    exact ⟨rfl, A', g, (Moves.of_kept (Kept.of_below bz)).trans mv⟩

set_option maxHeartbeats 1600000 in
set_option maxRecDepth 20000 in
theorem uwith_any : Calls Tryz.prog 113 #[.pointer (some ⟨m, 0, none⟩)] w fun e w' => e = .returned (.func (.func 167) #[] #[.pointer (some ⟨w.heap.size, 0, none⟩)]) ∧ w' = w.alloc (.cells #[.pointer (some ⟨m, 0, none⟩)] 23) := by
  go_enter Tryz.func113, Tryz.ntmps113
  go_wp2
  go_ret
  exact ⟨rfl, rfl⟩

end

end Go.Proofs.YtdhphbokkmofaaaGreat

namespace Go.Proofs.YtdhphbokkmofaaaGreat
open Go.RowKit Go.Sort

section
variable {w0 w : World} {m p lp z : Nat} {X : Int → Nat} {A0 : Nat → Prop} {d : DG} {M0 : MgG} {rs0 : List ByteArray} {n K0 F : Nat} {e0 : Prop} {D : Nat → Prop} {V V' : Nat → SheetV} {J : List ByteArray → Nat → List UpN → Prop} {L : List UpN}

set_option maxHeartbeats 3200000 in
set_option maxRecDepth 20000 in
theorem uabort_any (hJ : JOk n J) (hz : z ≤ 1000000) (h : GN w0 w m p X A0 lp z d M0 rs0 n K0 F 1 e0 D V J L) (hF : F ≤ 4194304) (hU : UndN CLu D V L V') :
    Calls Tryz.prog 49 #[.pointer (some ⟨m, 0, none⟩), .int .i64 n] w fun e w' => e = .returned (.int .i64 0) ∧ GAbN w0 w' m p X A0 lp z d M0 rs0 n K0 F D V' J := by
  have b1 : Below w.heap.size w (w.alloc (.cells #[.pointer (some ⟨m, 0, none⟩)] 23)) := (Below.refl _ _).alloc (Nat.le_refl _) _
  have x1 : Blk (w.alloc (.cells #[.pointer (some ⟨m, 0, none⟩)] 23)) w.heap.size #[.pointer (some ⟨m, 0, none⟩)] 23 := Blk.made _ _ _
  have HAB := hidx (gn_abort (wy := w.alloc (.cells #[.pointer (some ⟨m, 0, none⟩)] 23)) (clo_undo m p X d n w.heap.size) hJ hz h b1 (fun A _ hlt => ⟨x1.cell 0, fun hx => by have := hlt _ hx; omega⟩) hF hU)
  clear b1 x1 hJ hz h hF hU
  go_enter Tryz.func49, Tryz.ntmps49
  go_wp2_with fail
  refine uwith_any.mono ?_
  rintro e w1 ⟨rfl, rfl⟩
  go_wp2_with fail
  refine HAB.out.mono ?_
  rintro e w2 ⟨rfl, h2⟩
  have H2 := hidx h2
  go_wp2_with fail
  refine bodyPost_ret (v := .int .i64 0) (by simp [results, Tryz.results49, go_sem]) rfl ?_
  exact ⟨rfl, H2.out⟩

end

end Go.Proofs.YtdhphbokkmofaaaGreat

namespace Go.Proofs.YtdhphbokkmofaaaGreat
open Go.RowKit Go.Sort

theorem one_byt {x : Nat} (hx : x < 256) : bytN (one x) 0 = x := by
  unfold bytN one
  simp
  omega

theorem xor_self2 (a b : Nat) : (a ^^^ b) ^^^ a = b := by
  rw [Nat.xor_comm a b, Nat.xor_assoc, Nat.xor_self, Nat.xor_zero]

theorem turnO_trn {s : ByteArray} {k : Nat} : trnN (turnO s k) = pwN k := by
  unfold trnN
  rw [if_pos ⟨rfl, rfl⟩]
  show bytN (one (bytN s (atN k) ^^^ pwN k)) 0 ^^^ bytN (one (bytN s (atN k))) 0 = _
  rw [one_byt (xor_lt s k), one_byt (bytN_lt _ _), xor_self2]

theorem flip_at {s : ByteArray} {k : Nat} (hs : s.size = 256) (hk : k ≤ 2048) : bytN (flipS s k) (atN k) = bytN s (atN k) ^^^ pwN k := by
  have := atN_lt hk
  unfold flipS
  rw [putS_byt _ (by omega) (xor_lt s k), if_pos rfl]

theorem inv_turn {s : ByteArray} {k : Nat} (hs : s.size = 256) (hk : k ≤ 2048) : invO (turnO s k) = turnO (flipS s k) k := by
  rw [turnO_inv]
  unfold turnO
  rw [flip_at hs hk, Nat.xor_assoc, Nat.xor_self, Nat.xor_zero]

theorem ones_pw : ∀ j : Fin 8, Lib.onesCount (2 ^ j.val) = 1 := by decide +kernel

theorem turnO_trnI {s : ByteArray} {k : Nat} : trnI (turnO s k) = true := by
  unfold trnI
  rw [turnO_trn]
  exact decide_eq_true ⟨rfl, rfl, ones_pw ⟨(k - 1) % 8, Nat.mod_lt _ (by decide)⟩⟩

theorem flipV_one (V : Nat → SheetV) (s : ByteArray) (k : Nat) : flipV V s k 1 = mapV 0 (flipS s k) := if_pos rfl

theorem turn_clu {V : Nat → SheetV} {s : ByteArray} {k n prev pl : Nat} (hs : s.size = 256) (hk : k ≤ 2048) (x : SheetV) (hn : x.num = 1) (hsame : SameC x (flipV V s k 1)) :
    CLu ⟨⟨pl, (turnO s k).S, (turnO s k).old⟩, recN n prev (chgU 1 (turnO s k)), invO (turnO s k)⟩ x := by
  rw [flipV_one] at hsame
  have hsl : x.slots = [flipS s k] := hsame.slots
  have hkd : x.kind = 1 := hsame.kind
  have hs0 : slot0 x = flipS s k := by unfold slot0; rw [hsl]; rfl
  have hb : isB x = true := by
    unfold isB
    rw [decide_eq_true_eq]
    exact ⟨hkd, by rw [hsl]; rfl, by rw [hs0]; exact flip_size hs hk⟩
  have ha := atN_lt hk
  have hk6 : (turnO s k).kind = 6 := rfl
  have hat : (turnO s k).at' = ((atN k : Nat) : Int) := rfl
  have hiv := inv_turn hs hk
  have htt : turnO (flipS s k) k = ⟨6, ((atN k : Nat) : Int), one (bytN (flipS s k) (atN k) ^^^ pwN k), one (bytN (flipS s k) (atN k))⟩ := rfl
  have htn := turnO_trn (s := s) (k := k)
  have hti := turnO_trnI (s := s) (k := k)
  generalize turnO (flipS s k) k = o2 at hiv htt
  generalize flipS s k = fs at hsl hs0 htt
  generalize turnO s k = o at hk6 hat hiv htn hti ⊢
  have hX : uopX x (recN n prev (chgU 1 o)) = false := decide_eq_false (by
    rintro (h | h | h)
    · exact h rfl
    · exact h rfl
    · exact h hn.symm)
  have hM : uopM (recN n prev (chgU 1 o)) = true := decide_eq_true ⟨rfl, hk6⟩
  have hA : agB x o = true := decide_eq_true ⟨hti, hb, by rw [hat]; omega, by rw [hat]; omega⟩
  refine ⟨rfl, ?_, ?_⟩
  · unfold uopE
    rw [hX, hM]
    show agE x o = 0
    unfold agE
    rw [hA]
    rfl
  · unfold uopO
    rw [hX, hM]
    show agO x o = invO o
    unfold agO
    rw [hA, hiv, htn, hs0, hat, htt, Int.toNat_natCast]
    rfl

theorem flip_flip {s : ByteArray} {k : Nat} (hs : s.size = 256) (hk : k ≤ 2048) : flipS (flipS s k) k = s := by
  have ha := atN_lt hk
  have h1 := flip_size hs hk
  have hi : atN k < s.size := by omega
  have e : (flipS (flipS s k) k).data.toList = s.data.toList := by
    unfold flipS
    rw [putS_list _ (by rw [putS_size _ hi]; omega), putS_list _ hi, putS_byt _ hi (xor_lt s k), if_pos rfl, Nat.xor_assoc, Nat.xor_self, Nat.xor_zero, List.set_set]
    have hl : atN k < s.data.toList.length := by simpa using hi
    rw [show UInt8.ofNat (bytN s (atN k)) = s.data.toList[atN k] from by unfold bytN; rw [List.getD_eq_getElem?_getD, List.getElem?_eq_getElem hl]; simp]
    exact List.set_getElem_self hl
  have e2 : (flipS (flipS s k) k).data = s.data := by
    have := congrArg List.toArray e
    simpa using this
  cases hq : flipS (flipS s k) k
  rw [hq] at e2
  cases s
  simp only at e2
  rw [e2]

theorem turn_undN {D : Nat → Prop} {V : Nat → SheetV} {s : ByteArray} {k n prev pl : Nat} (hD : D 1) (hV : V 1 = mapV 0 s) (hs : s.size = 256) (hk : k ≤ 2048) :
    UndN CLu D (flipV V s k) [⟨⟨pl, (turnO s k).S, (turnO s k).old⟩, recN n prev (chgU 1 (turnO s k)), invO (turnO s k)⟩] V := by
  have hd : DoesN D (flipV V s k) 1 (turnO (flipS s k) k) (flipV (flipV V s k) (flipS s k) k) := turnO_does hD (flipV_one V s k) (flip_size hs hk) hk
  have e : flipV (flipV V s k) (flipS s k) k = V := by
    funext j
    by_cases h : j = 1
    · rw [h, flipV_one, flip_flip hs hk, hV]
    · show (if j = 1 then _ else if j = 1 then _ else V j) = V j
      rw [if_neg h, if_neg h]
  rw [e, ← inv_turn hs hk] at hd
  exact ⟨V, hd, fun x _ hn hsame => turn_clu hs hk x hn hsame, rfl⟩

end Go.Proofs.YtdhphbokkmofaaaGreat

namespace Go.Proofs.YtdhphbokkmofaaaGreat
open Go.RowKit Go.Sort

theorem turn_again {x : SheetV} {r : RecV} {s s0 : ByteArray} {k : Nat} (hk : k ≤ 2048) (hn : x.num = 1) (hb : isB x = true) (hs : slot0 x = s) (h1 : r.kind = 1) (h2 : r.undo = 1) (h3 : r.page = 1) (h4 : r.op = turnO s0 k) : uopE x r = 0 ∧ uopO x r = turnO s k := by
  have ha := atN_lt hk
  have hk6 : (turnO s0 k).kind = 6 := rfl
  have hat : (turnO s0 k).at' = ((atN k : Nat) : Int) := rfl
  have htt : turnO s k = ⟨6, ((atN k : Nat) : Int), one (bytN s (atN k) ^^^ pwN k), one (bytN s (atN k))⟩ := rfl
  have htn := turnO_trn (s := s0) (k := k)
  have hti := turnO_trnI (s := s0) (k := k)
  rw [← h4] at hk6 hat htn hti
  generalize turnO s k = o2 at htt ⊢
  have hX : uopX x r = false := decide_eq_false (by
    rintro (h | h | h)
    · exact h h1
    · exact h h2
    · exact h (by omega))
  have hM : uopM r = true := decide_eq_true ⟨h3, hk6⟩
  have hA : agB x r.op = true := decide_eq_true ⟨hti, hb, by rw [hat]; omega, by rw [hat]; omega⟩
  refine ⟨?_, ?_⟩
  · unfold uopE
    rw [hX, hM]
    show agE x r.op = 0
    unfold agE
    rw [hA]
    rfl
  · unfold uopO
    rw [hX, hM]
    show agO x r.op = o2
    unfold agO
    rw [hA, htn, hs, hat, htt, Int.toNat_natCast]
    rfl

def btS (n g : Nat) : Nat → ByteArray
  | 0 => freshS n
  | 1 => flipS (freshS n) (n + 1)
  | 2 => flipS (flipS (freshS n) (n + 1)) (n + 2)
  | 3 => flipS (flipS (flipS (freshS n) (n + 1)) (n + 2)) g
  | _ => flipS (flipS (flipS (flipS (freshS n) (n + 1)) (n + 2)) g) (n + 1)

theorem btS_size {n g : Nat} (h1 : 1 ≤ n) (h2 : n ≤ 60) (g1 : 1 ≤ g) (g2 : g ≤ n) (i : Nat) (hi : i ≤ 4) : (btS n g i).size = 256 := by
  have e0 := freshS_size n
  have e1 := flip_size e0 (n := n + 1) (by omega)
  have e2 := flip_size e1 (n := n + 2) (by omega)
  have e3 := flip_size e2 (n := g) (by omega)
  have e4 := flip_size e3 (n := n + 1) (by omega)
  match i, hi with
  | 0, _ => exact e0
  | 1, _ => exact e1
  | 2, _ => exact e2
  | 3, _ => exact e3
  | 4, _ => exact e4

theorem btS_tk {n g : Nat} (h1 : 1 ≤ n) (h2 : n ≤ 60) (g1 : 1 ≤ g) (g2 : g ≤ n) (k : Nat) (k1 : 1 ≤ k) (k2 : k ≤ 2048) : tkB (btS n g 4) k = if k = n + 1 then false else if k = g then false else if k = n + 2 then true else decide (k ≤ n) := by
  have e0 := freshS_size n
  have e1 := flip_size e0 (n := n + 1) (by omega)
  have e2 := flip_size e1 (n := n + 2) (by omega)
  have e3 := flip_size e2 (n := g) (by omega)
  show tkB (flipS (flipS (flipS (flipS (freshS n) (n + 1)) (n + 2)) g) (n + 1)) k = _
  have f := fun j => fresh_tk n j
  rw [flip_tk e3 (by omega) (by omega) k]
  by_cases a : k = n + 1
  · rw [if_pos a, if_pos a, flip_tk e2 g1 (by omega) (n + 1), if_neg (by omega), flip_tk e1 (by omega) (by omega) (n + 1), if_neg (by omega), flip_tk e0 (by omega) (by omega) (n + 1), if_pos rfl, f]
    simp
  · rw [if_neg a, if_neg a, flip_tk e2 g1 (by omega) k]
    by_cases b : k = g
    · rw [if_pos b, if_pos b, flip_tk e1 (by omega) (by omega) g, if_neg (by omega), flip_tk e0 (by omega) (by omega) g, if_neg (by omega), f, decide_eq_true (by omega)]
      rfl
    · rw [if_neg b, if_neg b, flip_tk e1 (by omega) (by omega) k]
      by_cases c : k = n + 2
      · rw [if_pos c, if_pos c, flip_tk e0 (by omega) (by omega) (n + 2), if_neg (by omega), f, decide_eq_false (by omega)]
        rfl
      · rw [if_neg c, if_neg c, flip_tk e0 (by omega) (by omega) k, if_neg a, f]
        exact decide_eq_decide.2 (by omega)

end Go.Proofs.YtdhphbokkmofaaaGreat

namespace Go.Proofs.YtdhphbokkmofaaaGreat
open Go.RowKit Go.Sort

def btN (t : Int) : Nat := if 1 < t then (t.tmod 60).toNat + 1 else 1
def btG (t : Int) (n : Nat) : Nat := if 1 < t then (t.tmod (n : Int)).toNat + 1 else 1

theorem btN_le (t : Int) : 1 ≤ btN t ∧ btN t ≤ 60 := by
  unfold btN
  split
  · have h1 := Int.tmod_lt_of_pos t (show (0 : Int) < 60 by omega)
    have h2 := Int.tmod_nonneg (60 : Int) (show 0 ≤ t by omega)
    omega
  · omega

theorem btG_le (t : Int) (n : Nat) (hn : 1 ≤ n) : 1 ≤ btG t n ∧ btG t n ≤ n := by
  unfold btG
  split
  · have h1 := Int.tmod_lt_of_pos t (show (0 : Int) < n by omega)
    have h2 := Int.tmod_nonneg (n : Int) (show 0 ≤ t by omega)
    omega
  · omega

theorem free_at {s : ByteArray} {m : Nat} (hm : tkB s (m + 1) = false) : ∀ f k : Nat, k ≤ m → m - k < f → (∀ j, k < j → j ≤ m → tkB s j = true) → freeF s f k = m + 1
  | 0, _, _, h2, _ => by omega
  | f + 1, k, h1, h2, h => by
    by_cases e : k = m
    · subst e
      exact freeF_no _ _ _ hm
    · rw [freeF_tk _ _ _ (h (k + 1) (by omega) (by omega))]
      exact free_at hm f (k + 1) (by omega) (by omega) fun j a b => h j (by omega) b

theorem room_2048 : roomN 2048 = 2048 := by decide

section
variable {n g : Nat}

theorem bt_take0 (h1 : 1 ≤ n) (h2 : n ≤ 60) : takeN (mapV 1 (btS n g 0)) 2048 = n + 1 := by
  unfold takeN
  rw [mapV_slot, room_2048]
  refine free_at (m := n) ?_ _ _ (by omega) (by omega) fun j a b => ?_
  · show tkB (freshS n) (n + 1) = false
    rw [fresh_tk]; exact decide_eq_false (by omega)
  · show tkB (freshS n) j = true
    rw [fresh_tk]; exact decide_eq_true (by omega)

theorem bt_take1 (h1 : 1 ≤ n) (h2 : n ≤ 60) : takeN (mapV 2 (btS n g 1)) 2048 = n + 2 := by
  unfold takeN
  rw [mapV_slot, room_2048]
  refine free_at (m := n + 1) ?_ _ _ (by omega) (by omega) fun j a b => ?_
  · show tkB (flipS (freshS n) (n + 1)) (n + 1 + 1) = false
    rw [flip_tk (freshS_size n) (by omega) (by omega), if_neg (by omega), fresh_tk]; exact decide_eq_false (by omega)
  · show tkB (flipS (freshS n) (n + 1)) j = true
    rw [flip_tk (freshS_size n) (by omega) (by omega)]
    by_cases e : j = n + 1
    · rw [if_pos e, fresh_tk]
      rw [decide_eq_false (by omega)]; rfl
    · rw [if_neg e, fresh_tk]; exact decide_eq_true (by omega)

theorem bt_give (h1 : 1 ≤ n) (h2 : n ≤ 60) (g1 : 1 ≤ g) (g2 : g ≤ n) : tkB (btS n g 2) g = true := by
  show tkB (flipS (flipS (freshS n) (n + 1)) (n + 2)) g = true
  rw [flip_tk (flip_size (freshS_size n) (by omega)) (by omega) (by omega), if_neg (by omega), flip_tk (freshS_size n) (by omega) (by omega), if_neg (by omega), fresh_tk]
  exact decide_eq_true (by omega)

theorem bt_len (h1 : 1 ≤ n) (h2 : n ≤ 60) (g1 : 1 ≤ g) (g2 : g ≤ n) : ∀ K : Nat, K ≤ 2048 → (tkL (btS n g 4) K).length = if K < g then K else if K ≤ n then K - 1 else if K = n + 1 then n - 1 else n
  | 0, _ => by rw [if_pos (by omega)]; rfl
  | K + 1, hK => by
    rw [tkL_snoc, List.length_append, bt_len h1 h2 g1 g2 K (by omega), len_if, btS_tk h1 h2 g1 g2 (K + 1) (by omega) hK]
    by_cases a : K + 1 = n + 1
    · rw [if_pos a, if_neg (by omega), if_pos (by omega), if_neg (by omega), if_neg (by omega), if_pos a]
      show K - 1 + 0 = _
      omega
    · rw [if_neg a]
      by_cases b : K + 1 = g
      · rw [if_pos b, if_pos (by omega), if_neg (by omega), if_pos (by omega)]
        show K + 0 = _
        omega
      · rw [if_neg b]
        by_cases c : K + 1 = n + 2
        · rw [if_pos c, if_neg (by omega), if_neg (by omega), if_pos (by omega), if_neg (by omega), if_neg (by omega), if_neg (by omega)]
          show n - 1 + 1 = n
          omega
        · rw [if_neg c]
          by_cases d : K + 1 ≤ n
          · rw [decide_eq_true d]
            by_cases e : K + 1 < g
            · rw [if_pos (by omega), if_pos e]
              rfl
            · rw [if_neg (by omega), if_pos (by omega), if_neg e, if_pos d]
              show K - 1 + 1 = _
              omega
          · rw [decide_eq_false d, if_neg (by omega), if_neg (by omega), if_neg (by omega), if_neg (by omega), if_neg d, if_neg (by omega)]
            rfl

theorem bt_cnt (h1 : 1 ≤ n) (h2 : n ≤ 60) (g1 : 1 ≤ g) (g2 : g ≤ n) : cntN (btS n g 4) 256 = n := by
  rw [← tkL_len _ 256 (Nat.le_refl _), bt_len h1 h2 g1 g2 (8 * 256) (by omega), if_neg (by omega), if_neg (by omega), if_neg (by omega)]

end

end Go.Proofs.YtdhphbokkmofaaaGreat

namespace Go.Proofs.YtdhphbokkmofaaaGreat
open Go.RowKit Go.Sort

set_option maxHeartbeats 400000 in
set_option maxRecDepth 60000 in
theorem op16_any (o : OpV) (w : World) :
    Calls Tryz.prog 14 #[o.val] w fun e w' => e = .returned o.val ∧ Below w.heap.size w w' := by
  obtain ⟨K, A, S, T⟩ := o
  simp only [OpV.val]
  go_enter Tryz.func14, Tryz.ntmps14
  go_wp2
  refine bodyPost_ret (v := .agg #[.int .i64 K, .int .i64 A, .string S, .string T]) (by simp [results, Tryz.results14, go_sem]) rfl ?_
  exact ⟨rfl, ((Below.refl _ _).alloc (Nat.le_refl _) _).alloc (by simp) _⟩

end Go.Proofs.YtdhphbokkmofaaaGreat

namespace Go.Proofs.YtdhphbokkmofaaaGreat
open Go.RowKit Go.Sort

structure BtAt (w wr : World) (g M K : Nat) (p : SheetV) (a : Option Addr) (c : Nat) : Prop where
  bel : Below w.heap.size w wr
  ops : FreshOps wr g K
  cur : RowV wr M 5 (five (.int .u32 p.num) (.int .u64 p.lsn) (.int .i64 p.kind) (.string p.head) (.slice a p.slots.length c))
  strs : StrsFrom (M + 1) wr a p.slots
  lt1 : w.heap.size < g
  lt2 : g < M
  lt3 : M < wr.heap.size

theorem BtAt.below {w wr wx : World} {g M K : Nat} {p : SheetV} {a : Option Addr} {c : Nat} (h : BtAt w wr g M K p a c) (k : Below wr.heap.size wr wx) : BtAt w wx g M K p a c :=
  have l1 := h.lt1
  have l2 := h.lt2
  have l3 := h.lt3
  ⟨below_chain h.bel k, TwoOps.below h.ops k, h.cur.below k h.lt3, h.strs.below k, l1, l2, Nat.lt_of_lt_of_le l3 k.size⟩

theorem BtAt.put {w wr : World} {g M K : Nat} {p q : SheetV} {a a' : Option Addr} {c c' : Nat} (h : BtAt w wr g M K p a c) (hs : StrsFrom (M + 1) wr a' q.slots) :
    BtAt w (store5 wr M (.int .u32 q.num) (.int .u64 q.lsn) (.int .i64 q.kind) (.string q.head) (.slice a' q.slots.length c')) g M K q a' c' :=
  have l1 := h.lt1
  have l2 := h.lt2
  ⟨below_set5 h.bel (by omega) _ _ _ _ _, TwoOps.set5 h.ops (by omega) _ _ _ _ _, h.cur.set5 _ _ _ _ _, hs.store5 (by omega) _ _ _ _ _, l1, l2, by rw [store5_size]; exact h.lt3⟩

structure MpAt (w wx : World) (b l : Nat) (s : ByteArray) (a : Option Addr) (c : Nat) : Prop where
  bel : Below w.heap.size w wx
  row : RowV wx b 5 (five (.int .u32 1) (.int .u64 l) (.int .i64 1) (.string ⟨#[]⟩) (.slice a 1 c))
  mem : StrsAt wx a [s]
  lt : b < wx.heap.size

theorem MpAt.below {w wx wy : World} {b l : Nat} {s : ByteArray} {a : Option Addr} {c : Nat} (h : MpAt w wx b l s a c) (k : Below wx.heap.size wx wy) : MpAt w wy b l s a c :=
  ⟨below_chain h.bel k, h.row.below k h.lt, h.mem.below k, Nat.lt_of_lt_of_le h.lt k.size⟩

theorem MpAt.new {w wx wy : World} {l : Nat} {s : ByteArray} {a : Option Addr} {c : Nat} (h : Below w.heap.size w wx) (k : Below wx.heap.size wx wy) (hs : StrsFrom wx.heap.size wy a [s]) :
    MpAt w (wy.alloc (.cells #[.int .u32 1, .int .u64 l, .int .i64 1, .string ⟨#[]⟩, .slice a 1 c] 44)) wy.heap.size l s a c := by
  have b : Below wy.heap.size wy (wy.alloc (.cells #[.int .u32 1, .int .u64 l, .int .i64 1, .string ⟨#[]⟩, .slice a 1 c] 44)) := (Below.refl _ _).alloc (Nat.le_refl _) _
  exact ⟨below_chain (below_chain h k) b, RowV.five_new _ _ _ _ _ _ _, (hs.below b).at, by simp⟩

structure OcAt (wx : World) (b : Nat) (A : Int) (X Y : ByteArray) : Prop where
  row : RowV wx b 4 (four (.int .i64 6) (.int .i64 A) (.string X) (.string Y))
  lt : b < wx.heap.size

theorem OcAt.below {wx wy : World} {b : Nat} {A : Int} {X Y : ByteArray} (h : OcAt wx b A X Y) (k : Below wx.heap.size wx wy) : OcAt wy b A X Y :=
  ⟨h.row.below k h.lt, Nat.lt_of_lt_of_le h.lt k.size⟩

theorem OcAt.new {wy : World} {A : Int} {X Y : ByteArray} : OcAt (wy.alloc (.cells #[.int .i64 6, .int .i64 A, .string X, .string Y] 46)) wy.heap.size A X Y :=
  ⟨RowV.four_new _ _ _ _ _ _, by simp⟩

structure BtCalls (n g : Nat) (s0 s1 s2 s3 s4 : ByteArray) (A0 A1 A2 : Int) (X0 Y0 X1 Y1 X2 Y2 X3 Y3 : ByteArray) : Prop where
  t0 : ∀ (a : Option Addr) (c : Nat) (wx : World), StrsAt wx a [s0] → Calls Tryz.prog 53 #[.agg #[.int .u32 1, .int .u64 1, .int .i64 1, .string ⟨#[]⟩, .slice a 1 c], .int .i64 2048] wx fun e w' => e = .returned (.tuple #[.int .u32 ((n : Int) + 1), .agg #[.int .i64 6, .int .i64 A0, .string X0, .string Y0], .int .i64 0]) ∧ Below wx.heap.size wx w'
  a0 : ∀ (a : Option Addr) (c : Nat) (wx : World), StrsAt wx a [s0] → Calls Tryz.prog 52 #[.agg #[.int .u32 1, .int .u64 1, .int .i64 1, .string ⟨#[]⟩, .slice a 1 c], .agg #[.int .i64 6, .int .i64 A0, .string X0, .string Y0], .int .u64 2] wx fun e w' => ∃ a' c', e = .returned (.tuple #[.agg #[.int .u32 1, .int .u64 2, .int .i64 1, .string ⟨#[]⟩, .slice a' 1 c'], .int .i64 0]) ∧ Below wx.heap.size wx w' ∧ StrsFrom wx.heap.size w' a' [s1]
  t1 : ∀ (a : Option Addr) (c : Nat) (wx : World), StrsAt wx a [s1] → Calls Tryz.prog 53 #[.agg #[.int .u32 1, .int .u64 2, .int .i64 1, .string ⟨#[]⟩, .slice a 1 c], .int .i64 2048] wx fun e w' => e = .returned (.tuple #[.int .u32 ((n : Int) + 2), .agg #[.int .i64 6, .int .i64 A1, .string X1, .string Y1], .int .i64 0]) ∧ Below wx.heap.size wx w'
  a1 : ∀ (a : Option Addr) (c : Nat) (wx : World), StrsAt wx a [s1] → Calls Tryz.prog 52 #[.agg #[.int .u32 1, .int .u64 2, .int .i64 1, .string ⟨#[]⟩, .slice a 1 c], .agg #[.int .i64 6, .int .i64 A1, .string X1, .string Y1], .int .u64 3] wx fun e w' => ∃ a' c', e = .returned (.tuple #[.agg #[.int .u32 1, .int .u64 3, .int .i64 1, .string ⟨#[]⟩, .slice a' 1 c'], .int .i64 0]) ∧ Below wx.heap.size wx w' ∧ StrsFrom wx.heap.size w' a' [s2]
  gv : ∀ (a : Option Addr) (c : Nat) (wx : World), StrsAt wx a [s2] → Calls Tryz.prog 35 #[.agg #[.int .u32 1, .int .u64 3, .int .i64 1, .string ⟨#[]⟩, .slice a 1 c], .int .u32 (g : Int)] wx fun e w' => e = .returned (.tuple #[.agg #[.int .i64 6, .int .i64 A2, .string X2, .string Y2], .int .i64 0]) ∧ Below wx.heap.size wx w'
  a2 : ∀ (a : Option Addr) (c : Nat) (wx : World), StrsAt wx a [s2] → Calls Tryz.prog 52 #[.agg #[.int .u32 1, .int .u64 3, .int .i64 1, .string ⟨#[]⟩, .slice a 1 c], .agg #[.int .i64 6, .int .i64 A2, .string X2, .string Y2], .int .u64 4] wx fun e w' => ∃ a' c', e = .returned (.tuple #[.agg #[.int .u32 1, .int .u64 4, .int .i64 1, .string ⟨#[]⟩, .slice a' 1 c'], .int .i64 0]) ∧ Below wx.heap.size wx w' ∧ StrsFrom wx.heap.size w' a' [s3]
  un : ∀ (a : Option Addr) (c : Nat) (wx : World), StrsAt wx a [s3] → Calls Tryz.prog 12 #[.agg #[.int .u32 1, .int .u64 4, .int .i64 1, .string ⟨#[]⟩, .slice a 1 c], .agg #[.int .i64 1, .int .i64 0, .int .u64 0, .int .u64 0, .int .u32 1, .int .i64 6, .int .i64 A0, .string X0, .string Y0, .int .i64 1, .int .i64 0, .string ⟨#[]⟩, .int .u32 0, .int .i64 0, .bool false, .slice none 0 0, .slice none 0 0]] wx fun e w' => e = .returned (.tuple #[.agg #[.int .i64 6, .int .i64 A0, .string X3, .string Y3], .int .i64 0]) ∧ Below wx.heap.size wx w'
  a3 : ∀ (a : Option Addr) (c : Nat) (wx : World), StrsAt wx a [s3] → Calls Tryz.prog 52 #[.agg #[.int .u32 1, .int .u64 4, .int .i64 1, .string ⟨#[]⟩, .slice a 1 c], .agg #[.int .i64 6, .int .i64 A0, .string X3, .string Y3], .int .u64 5] wx fun e w' => ∃ a' c', e = .returned (.tuple #[.agg #[.int .u32 1, .int .u64 5, .int .i64 1, .string ⟨#[]⟩, .slice a' 1 c'], .int .i64 0]) ∧ Below wx.heap.size wx w' ∧ StrsFrom wx.heap.size w' a' [s4]
  k1 : ∀ (a : Option Addr) (c : Nat) (wx : World), StrsAt wx a [s4] → Calls Tryz.prog 45 #[.agg #[.int .u32 1, .int .u64 5, .int .i64 1, .string ⟨#[]⟩, .slice a 1 c], .int .u32 ((n : Int) + 1)] wx fun e w' => e = .returned (.bool false) ∧ Below wx.heap.size wx w'
  k2 : ∀ (a : Option Addr) (c : Nat) (wx : World), StrsAt wx a [s4] → Calls Tryz.prog 45 #[.agg #[.int .u32 1, .int .u64 5, .int .i64 1, .string ⟨#[]⟩, .slice a 1 c], .int .u32 ((n : Int) + 1 + 1)] wx fun e w' => e = .returned (.bool true) ∧ Below wx.heap.size wx w'
  k3 : ∀ (a : Option Addr) (c : Nat) (wx : World), StrsAt wx a [s4] → Calls Tryz.prog 45 #[.agg #[.int .u32 1, .int .u64 5, .int .i64 1, .string ⟨#[]⟩, .slice a 1 c], .int .u32 (g : Int)] wx fun e w' => e = .returned (.bool false) ∧ Below wx.heap.size wx w'
  ct : ∀ (a : Option Addr) (c : Nat) (wx : World), StrsAt wx a [s4] → Calls Tryz.prog 54 #[.agg #[.int .u32 1, .int .u64 5, .int .i64 1, .string ⟨#[]⟩, .slice a 1 c]] wx fun e w' => e = .returned (.int .i64 n) ∧ Below wx.heap.size wx w'

def recBt (s : ByteArray) (k : Nat) : RecV := ⟨1, 0, 0, 0, 1, turnO s k, 1, 0, ⟨#[]⟩, 0, 0, false, [], []⟩

theorem bt_calls {n g : Nat} (h1 : 1 ≤ n) (h2 : n ≤ 60) (g1 : 1 ≤ g) (g2 : g ≤ n) :
    BtCalls n g (freshS n) (btS n g 1) (btS n g 2) (btS n g 3) (btS n g 4) (atN (n + 1) : Nat) (atN (n + 2) : Nat) (atN g : Nat)
      (turnO (btS n g 0) (n + 1)).S (turnO (btS n g 0) (n + 1)).old (turnO (btS n g 1) (n + 2)).S (turnO (btS n g 1) (n + 2)).old (turnO (btS n g 2) g).S (turnO (btS n g 2) g).old (turnO (btS n g 3) (n + 1)).S (turnO (btS n g 3) (n + 1)).old := by
  have e0 := btS_size h1 h2 g1 g2 0 (by omega)
  have e1 := btS_size h1 h2 g1 g2 1 (by omega)
  have e2 := btS_size h1 h2 g1 g2 2 (by omega)
  have e3 := btS_size h1 h2 g1 g2 3 (by omega)
  have e4 := btS_size h1 h2 g1 g2 4 (by omega)
  have hl : ∀ (l : Nat) (s : ByteArray) (wx : World) (a : Option Addr), l < 100 → s.size = 256 → StrsAt wx a [s] → (mapV l s).Lies wx a := fun l s wx a h h' hs => Fits.lies (mapV_fits l s (by omega) h') hs
  have hk : ∀ (a : Option Addr) (c : Nat) (wx : World) (k : Nat) (b : Bool), k < 4294967296 → tkB (btS n g 4) k = b → StrsAt wx a [btS n g 4] → Calls Tryz.prog 45 #[(mapV 5 (btS n g 4)).val a c, .int .u32 k] wx fun e w' => e = .returned (.bool b) ∧ Below wx.heap.size wx w' := fun a c wx k b hk hb hs => by
    have := taken_any (c := c) (hl 5 _ wx a (by omega) e4 hs) k hk
    rw [show tkP (mapV 5 (btS n g 4)) k = b from by unfold tkP; rw [mapV_is _ _ e4, mapV_slot, hb]; rfl] at this
    exact this
  refine ⟨fun a c wx hs => ?_, fun a c wx hs => ?_, fun a c wx hs => ?_, fun a c wx hs => ?_, fun a c wx hs => ?_, fun a c wx hs => ?_, fun a c wx hs => ?_, fun a c wx hs => ?_, fun a c wx hs => ?_, fun a c wx hs => ?_, fun a c wx hs => ?_, fun a c wx hs => ?_⟩
  · have := take_map (c := c) (hl 1 _ wx a (by omega) e0 hs) 2048 (mapV_is _ _ e0) (by omega) (by omega)
    unfold takeE at this
    rw [bt_take0 (g := g) h1 h2, mapV_is _ _ e0] at this
    exact this
  · exact apply_turn (l := 1) 2 (n + 1) (by decide) e0 (by omega) hs
  · have := take_map (c := c) (hl 2 _ wx a (by omega) e1 hs) 2048 (mapV_is _ _ e1) (by omega) (by omega)
    unfold takeE at this
    rw [bt_take1 (g := g) h1 h2, mapV_is _ _ e1] at this
    exact this
  · exact apply_turn (l := 2) 3 (n + 2) (by decide) e1 (by omega) hs
  · have := sgive_any (c := c) (hl 3 _ wx a (by omega) e2 hs) g (by omega)
    unfold giveE at this
    rw [mapV_is _ _ e2, mapV_slot, bt_give h1 h2 g1 g2] at this
    exact this
  · exact apply_turn (l := 3) 4 g (by decide) e2 (by omega) hs
  · have hok : (recBt (btS n g 0) (n + 1)).op.Ok := turnO_ok _ _ (by omega)
    have ha := turn_again (x := mapV 4 (btS n g 3)) (r := recBt (btS n g 0) (n + 1)) (s := btS n g 3) (s0 := btS n g 0) (k := n + 1) (by omega) rfl (mapV_is _ _ e3) rfl rfl rfl rfl rfl
    have := uop_any (p := mapV 4 (btS n g 3)) (r := recBt (btS n g 0) (n + 1)) (c := c) (hl 4 _ wx a (by omega) e3 hs) hok none none 0 0
    rw [ha.1, ha.2] at this
    exact this
  · exact apply_turn (l := 4) 5 (n + 1) (by decide) e3 (by omega) hs
  · have := hk a c wx (n + 1) false (by omega) (by rw [btS_tk h1 h2 g1 g2 _ (by omega) (by omega), if_pos rfl]) hs
    exact this
  · have := hk a c wx (n + 2) true (by omega) (by rw [btS_tk h1 h2 g1 g2 _ (by omega) (by omega), if_neg (by omega), if_neg (by omega), if_pos rfl]) hs
    exact this
  · exact hk a c wx g false (by omega) (by rw [btS_tk h1 h2 g1 g2 _ (by omega) (by omega), if_neg (by omega), if_pos rfl]) hs
  · have := count_any (c := c) (hl 5 _ wx a (by omega) e4 hs)
    rw [show cntP (mapV 5 (btS n g 4)) = n from by unfold cntP; rw [mapV_is _ _ e4, mapV_slot, bt_cnt h1 h2 g1 g2]; rfl] at this
    exact this

theorem bt_ex {n g : Nat} (h1 : 1 ≤ n) (h2 : n ≤ 60) (g1 : 1 ≤ g) (g2 : g ≤ n) : ∃ s1 s2 s3 s4 A0 A1 A2 X0 Y0 X1 Y1 X2 Y2 X3 Y3, BtCalls n g (freshS n) s1 s2 s3 s4 A0 A1 A2 X0 Y0 X1 Y1 X2 Y2 X3 Y3 :=
  ⟨_, _, _, _, _, _, _, _, _, _, _, _, _, _, _, bt_calls h1 h2 g1 g2⟩

end Go.Proofs.YtdhphbokkmofaaaGreat
