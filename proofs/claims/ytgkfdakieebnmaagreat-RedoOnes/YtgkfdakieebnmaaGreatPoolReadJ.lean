/-
  What the bytes of a page's place say: the walk of pool.readable; pool.blank, pool.givesWay.
-/
import Derived.Test.YtgkfdakieebnmaaGreatShEqualJ
import Derived.Test.YtgkfdakieebnmaaGreatPoolCopyC
import Derived.Test.YtgkfdakieebnmaaGreatWalFrameJ
import Derived.Test.YtgkfdakieebnmaaGreatRepeatJ
import Derived.Test.YtgkfdakieebnmaaGreatRowOpsJ
import Derived.Lib.QuietBelow
import Derived.Test.YtgkfdakieebnmaaGreatProg
import Derived.WalkKit
import Derived.WalkSpells
import Derived.WalkLawsBesides
import Derived.Maps.OwnSet
import Derived.Shelf.Small.Bits
import Derived.Maps.RangeWalk
import Derived.OwnWalk
set_option linter.unusedVariables false
set_option linter.unusedSimpArgs false
namespace Go.Proofs.YtgkfdakieebnmaaGreat
open Go.RowKit Go.Sort

theorem decP_fit (s : ByteArray) : (decP s).Fits := by
  by_cases h : decE s = 0 ∧ zerosB s.data.toList = false
  · exact (enc_of_dec h.1 h.2).1
  · have e : decP s = sheet0 := by unfold decP; rw [if_neg h]
    rw [e]
    exact ⟨by decide, by decide, by decide, by decide, by decide, by decide, by decide⟩

def rdB (n : Nat) (s : ByteArray) : Bool := decide (decE s = 0 ∧ ((decP s).num = n ∨ (decP s).num = 0))
def rdP (n : Nat) (s : ByteArray) : SheetV := if rdB n s = true then { decP s with num := n } else sheet0

theorem rdP_fit {n : Nat} (hn : n < 4294967296) (s : ByteArray) : (rdP n s).Fits := by
  unfold rdP
  split
  · have := decP_fit s
    exact ⟨hn, this.lsn, this.kind0, this.kind1, this.head, this.len, this.fits⟩
  · exact ⟨by decide, by decide, by decide, by decide, by decide, by decide, by decide⟩

def SheetV.arr (p : SheetV) (a : Option Addr) (c : Nat) : Array Value := #[.int .u32 p.num, .int .u64 p.lsn, .int .i64 p.kind, .string p.head, .slice a p.slots.length c]

def zero5 : Array Value := #[.int .u32 0, .int .u64 0, .int .i64 0, .string ⟨#[]⟩, .slice none 0 0]

theorem store5_other (w : World) (b k : Nat) (v0 v1 v2 v3 v4 : Value) (h : k ≠ b) : (store5 w b v0 v1 v2 v3 v4).heap[k]? = w.heap[k]? :=
  (Below.heap_setCell _ _ _ _ h).trans ((Below.heap_setCell _ _ _ _ h).trans ((Below.heap_setCell _ _ _ _ h).trans ((Below.heap_setCell _ _ _ _ h).trans (Below.heap_setCell _ _ _ _ h))))

theorem rd_over (w1 : World) (z : Nat) (o : Obj) (u0 u1 u2 u3 u4 : Value) {a : Option Addr} {L : List ByteArray} (hS : StrsFrom (z + 1) w1 a L) : StrsFrom z ((store5 w1 z u0 u1 u2 u3 u4).alloc o) a L :=
  ((hS.store5 (by omega) u0 u1 u2 u3 u4).below ((Below.refl _ _).alloc (Nat.le_refl _) _)).mono (by omega)

set_option maxHeartbeats 1600000 in
set_option maxRecDepth 60000 in
theorem readable_any (n : Nat) (s : ByteArray) (w : World) (hn : n < 4294967296) (hm : s.size ≤ maxLen) :
    Calls Tryz.prog 156 #[.int .u32 n, .string s] w fun x w' => ∃ a c, x = .returned (.tuple #[(rdP n s).val a c, .bool (rdB n s)]) ∧ StrsFrom w.heap.size w' a (rdP n s).slots ∧ Below w.heap.size w w' := by
  have HD : Hid (∀ W, Calls Tryz.prog 200 #[.string s] W fun x w' => ∃ a c, x = .returned (.tuple #[(decP s).val a c, .int .i64 (decE s)]) ∧ StrsFrom W.heap.size w' a (decP s).slots ∧ Below W.heap.size W w') := fun W => decode_any s W hm
  have hnum := (decP_fit s).num
  have HB : Hid (rdB n s = decide (decE s = 0 ∧ ((decP s).num = n ∨ (decP s).num = 0))) := rfl
  have HP : Hid (rdP n s = if rdB n s = true then { decP s with num := n } else sheet0) := rfl
  generalize rdB n s = B at *
  generalize rdP n s = P at *
  generalize decE s = E at *
  generalize decP s = D at *
  obtain ⟨num, lsn, kind, head, L⟩ := D
  simp only [SheetV.val] at HD
  go_enter Tryz.func156, Tryz.ntmps156
  go_wp2_with fail
  refine (HD.out _).mono ?_
  rintro x w1 ⟨a, c, rfl, hS, hb⟩
  have hlt : w.heap.size < w1.heap.size := by have := hb.size; simp at this; omega
  have hZ : Blk w1 w.heap.size zero5 52 := (Blk.made w zero5 52).same (hb.block _ (by simp))
  have f0 := hZ.frozen 0
  have f1 := hZ.frozen 1
  have f2 := hZ.frozen 2
  have f3 := hZ.frozen 3
  have f4 := hZ.frozen 4
  have c0 := hZ.cell 0
  have c1 := hZ.cell 1
  have c2 := hZ.cell 2
  have c3 := hZ.cell 3
  have c4 := hZ.cell 4
  simp only [zero5] at c0 c1 c2 c3 c4
  have hS' : StrsFrom (w.heap.size + 1) w1 a L := by simpa using hS
  have hb1 : Below w.heap.size w w1 := ((Below.refl _ _).alloc (Nat.le_refl _) _).trans (hb.mono (by simp))
  by_cases hE : E = 0
  · subst hE
    by_cases h1 : num = n
    · subst h1
      have h1' : ¬ ((num : Int) ≠ num) := by simp
      go_wp2
      refine bodyPost_ret (v := .tuple #[.agg #[.int .u32 num, .int .u64 lsn, .int .i64 kind, .string head, .slice a L.length c], .bool true]) (by simp [results, Tryz.results156, go_sem, c0, c1, c2, c3, c4, hlt]) rfl ?_
      have hB : B = true := by rw [HB.out]; simp
      have hP : P = ⟨num, lsn, kind, head, L⟩ := by rw [HP.out, hB]; rfl
      rw [hP, hB]
      refine ⟨a, c, rfl, ?_, ?_⟩
      · exact rd_over w1 _ _ _ _ _ _ _ hS'
      · exact (below_set5 hb1 (Nat.le_refl _) _ _ _ _ _).alloc (by rw [store5_size]; omega) _
    · have h1' : ¬ ((num : Int) = n) := by omega
      by_cases h2 : num = 0
      · subst h2
        go_wp2
        refine bodyPost_ret (v := .tuple #[.agg #[.int .u32 n, .int .u64 lsn, .int .i64 kind, .string head, .slice a L.length c], .bool true]) (by simp [results, Tryz.results156, go_sem, c0, c1, c2, c3, c4, hlt]) rfl ?_
        have hB : B = true := by rw [HB.out]; simp
        have hP : P = ⟨n, lsn, kind, head, L⟩ := by rw [HP.out, hB]; rfl
        rw [hP, hB]
        refine ⟨a, c, rfl, ?_, ?_⟩
        · exact rd_over w1 _ _ _ _ _ _ _ hS'
        · exact (below_set5 hb1 (Nat.le_refl _) _ _ _ _ _).alloc (by rw [store5_size]; omega) _
      · have h2' : ¬ ((num : Int) = 0) := by omega
        go_wp2
        refine bodyPost_ret (v := .tuple #[.agg #[.int .u32 0, .int .u64 0, .int .i64 0, .string ⟨#[]⟩, .slice none 0 0], .bool false]) (by simp [results, Tryz.results156, go_sem, c0, c1, c2, c3, c4, hlt]) rfl ?_
        have hB : B = false := by rw [HB.out]; simp [h1, h2]
        have hP : P = sheet0 := by rw [HP.out, hB]; rfl
        rw [hP, hB]
        exact ⟨none, 0, rfl, .inl rfl, (below_set5 hb1 (Nat.le_refl _) _ _ _ _ _).alloc (by rw [store5_size]; omega) _⟩
        rename_i hbad
        have hbad' : (num : Int) = n ∨ num = 0 := by simpa using hbad
        omega
  · go_wp2
    refine bodyPost_ret (v := .tuple #[.agg #[.int .u32 0, .int .u64 0, .int .i64 0, .string ⟨#[]⟩, .slice none 0 0], .bool false]) (by simp [results, Tryz.results156, go_sem, c0, c1, c2, c3, c4, hlt]) rfl ?_
    have hB : B = false := by rw [HB.out]; simp [hE]
    have hP : P = sheet0 := by rw [HP.out, hB]; rfl
    rw [hP, hB]
    exact ⟨none, 0, rfl, .inl rfl, (below_set5 hb1 (Nat.le_refl _) _ _ _ _ _).alloc (by rw [store5_size]; omega) _⟩

end Go.Proofs.YtgkfdakieebnmaaGreat

namespace Go.Proofs.YtgkfdakieebnmaaGreat
open Go.RowKit Go.Sort

def blankB (p : SheetV) : Bool := decide (p.lsn = 0) && sameB p ⟨p.num, 0, 0, ⟨#[]⟩, []⟩

set_option maxHeartbeats 1600000 in
set_option maxRecDepth 60000 in
theorem pblank_any (p : SheetV) (a1 : Option Addr) (c : Nat) (w : World) (hp : p.Ok w a1) :
    Calls Tryz.prog 201 #[p.val a1 c] w fun e w' => e = .returned (.bool (blankB p)) ∧ Below w.heap.size w w' := by
  have hq : ∀ wx, SheetV.Ok ⟨p.num, 0, 0, ⟨#[]⟩, []⟩ wx none := fun wx => ⟨hp.num, by show (0 : Nat) < _; omega, by show (-9223372036854775808 : Int) ≤ 0 ∧ (0 : Int) ≤ 9223372036854775807; omega, by show 0 ≤ _; omega, by show 0 ≤ _; omega, (by intro s hs; cases hs), StrsAt.nil _ _⟩
  have HSM : Hid (∀ wx, Below w.heap.size w wx → Calls Tryz.prog 16 #[p.val a1 c, SheetV.val ⟨p.num, 0, 0, ⟨#[]⟩, []⟩ none 0] wx fun e w' => e = .returned (.bool (sameB p ⟨p.num, 0, 0, ⟨#[]⟩, []⟩)) ∧ Below wx.heap.size wx w') := fun wx hb => same_any p _ a1 none c 0 wx (hp.below hb) (hq wx)
  have HBL : Hid (∀ wx, Calls Tryz.prog 220 #[.int .u32 p.num] wx fun x w' => x = .returned (.agg #[.int .u32 p.num, .int .u64 0, .int .i64 0, .string ⟨#[]⟩, .slice none 0 0]) ∧ Below wx.heap.size wx w') := fun wx => blank_any p.num wx
  have hl1 := hp.lsn
  have HB : Hid (blankB p = (decide (p.lsn = 0) && sameB p ⟨p.num, 0, 0, ⟨#[]⟩, []⟩)) := rfl
  generalize blankB p = B at *
  generalize sameB p ⟨p.num, 0, 0, ⟨#[]⟩, []⟩ = R at *
  clear hp hq
  obtain ⟨n1, l1, k1, h1, L⟩ := p
  simp only [SheetV.val] at *
  obtain ⟨W, HW⟩ : ∃ W, Hid (W = w.alloc (.cells #[.int .u32 n1, .int .u64 l1, .int .i64 k1, .string h1, .slice a1 L.length c] 52)) := ⟨_, rfl⟩
  have bel : Below w.heap.size w W := by rw [HW.out]; exact (Below.refl _ _).alloc (Nat.le_refl _) _
  have r1 : RowV W w.heap.size 5 (five (.int .u32 n1) (.int .u64 l1) (.int .i64 k1) (.string h1) (.slice a1 L.length c)) := by rw [HW.out]; exact RowV.five_new w _ _ _ _ _ _
  obtain ⟨x0, x1, x2, x3, x4⟩ := r1.cells5
  clear r1
  have gx0 := cell_regrown x0
  have gx1 := cell_regrown x1
  have gx2 := cell_regrown x2
  have gx3 := cell_regrown x3
  have gx4 := cell_regrown x4
  have cB : ∀ dd os, Calls Tryz.prog 220 #[.int .u32 n1] (grow (redrawn W dd) os) fun e w'' => e = .returned (.agg #[.int .u32 n1, .int .u64 0, .int .i64 0, .string ⟨#[]⟩, .slice none 0 0]) ∧ ∃ p : Regrown, w'' = grow (redrawn W p.d) p.os := fun dd os => Calls.regrown_of (HBL.out _)
  have cS : ∀ dd os, Calls Tryz.prog 16 #[.agg #[.int .u32 n1, .int .u64 l1, .int .i64 k1, .string h1, .slice a1 L.length c], .agg #[.int .u32 n1, .int .u64 0, .int .i64 0, .string ⟨#[]⟩, .slice none 0 0]] (grow (redrawn W dd) os) fun e w'' => e = .returned (.bool R) ∧ ∃ p : Regrown, w'' = grow (redrawn W p.d) p.os := fun dd os => Calls.regrown_of (HSM.out _ (below_chain bel (below_regrown W dd os)))
  by_cases e1 : l1 = 0
  · have e1' : ((l1 : Int) == 0) = true := by rw [beq_iff_eq]; omega
    have E1 : Hid (l1 = 0) := e1
    clear e1
    go_enter Tryz.func201, Tryz.ntmps201
    go_wp2_with fail
    rw [← HW.out]
    refine wp_region_quiet_below mixed (by kernel_rfl) ?_
    repeat (quiet_step (first | exact cB _ _ | exact cS _ _))
    refine wpQuiet_nil ?_
    intro _ hw'
    obtain ⟨⟨dq, osq⟩, hw''⟩ := hw'
    subst hw''
    go_wp2
    go_ret
    exact ⟨by rw [HB.out]; simp [E1.out], below_chain bel (below_regrown W dq osq)⟩
  · have e1' : ((l1 : Int) == 0) = false := by rw [beq_eq_false_iff_ne]; omega
    have E1 : Hid (¬ l1 = 0) := e1
    clear e1
    go_enter Tryz.func201, Tryz.ntmps201
    go_wp2_with fail
    rw [← HW.out]
    refine wp_region_quiet_below mixed (by kernel_rfl) ?_
    repeat (first | go_big_quiet_step (first | exact cB _ _ | exact cS _ _) | quiet_step (first | exact cB _ _ | exact cS _ _))
    refine wpQuiet_nil ?_
    intro _ hw'
    obtain ⟨⟨dq, osq⟩, hw''⟩ := hw'
    subst hw''
    go_wp2
    go_ret
    exact ⟨by rw [HB.out]; simp [E1.out], below_chain bel (below_regrown W dq osq)⟩

def givesB (y x : SheetV) : Bool := blankB y || (!blankB x && decide (y.lsn ≤ x.lsn))

set_option maxHeartbeats 1600000 in
set_option maxRecDepth 60000 in
theorem gives_any (y x : SheetV) (a1 a2 : Option Addr) (c d : Nat) (w : World) (hy : y.Ok w a1) (hx : x.Ok w a2) :
    Calls Tryz.prog 157 #[y.val a1 c, x.val a2 d] w fun e w' => e = .returned (.bool (givesB y x)) ∧ Below w.heap.size w w' := by
  have HY : Hid (∀ wx, Below w.heap.size w wx → Calls Tryz.prog 201 #[y.val a1 c] wx fun e w' => e = .returned (.bool (blankB y)) ∧ Below wx.heap.size wx w') := fun wx hb => pblank_any y a1 c wx (hy.below hb)
  have HX : Hid (∀ wx, Below w.heap.size w wx → Calls Tryz.prog 201 #[x.val a2 d] wx fun e w' => e = .returned (.bool (blankB x)) ∧ Below wx.heap.size wx w') := fun wx hb => pblank_any x a2 d wx (hx.below hb)
  have HG : Hid (givesB y x = (blankB y || (!blankB x && decide (y.lsn ≤ x.lsn)))) := rfl
  have hl1 := hy.lsn
  have hl2 := hx.lsn
  generalize givesB y x = G at *
  generalize blankB y = BY at *
  generalize blankB x = BX at *
  clear hy hx
  obtain ⟨n1, l1, k1, h1, L⟩ := y
  obtain ⟨n2, l2, k2, h2, M⟩ := x
  simp only [SheetV.val] at *
  obtain ⟨W, HW⟩ : ∃ W, Hid (W = (w.alloc (.cells #[.int .u32 n1, .int .u64 l1, .int .i64 k1, .string h1, .slice a1 L.length c] 52)).alloc (.cells #[.int .u32 n2, .int .u64 l2, .int .i64 k2, .string h2, .slice a2 M.length d] 52)) := ⟨_, rfl⟩
  have bel : Below w.heap.size w W := by rw [HW.out]; exact ((Below.refl _ _).alloc (Nat.le_refl _) _).alloc (by simp) _
  have r1 : RowV W w.heap.size 5 (five (.int .u32 n1) (.int .u64 l1) (.int .i64 k1) (.string h1) (.slice a1 L.length c)) := by
    rw [HW.out]; exact (RowV.five_new w _ _ _ _ _ _).below ((Below.refl _ _).alloc (Nat.le_refl _) _) (by simp)
  have r2 : RowV W (w.heap.size + 1) 5 (five (.int .u32 n2) (.int .u64 l2) (.int .i64 k2) (.string h2) (.slice a2 M.length d)) := by
    rw [HW.out]
    have := RowV.five_new (w.alloc (.cells #[.int .u32 n1, .int .u64 l1, .int .i64 k1, .string h1, .slice a1 L.length c] 52)) (.int .u32 n2) (.int .u64 l2) (.int .i64 k2) (.string h2) (.slice a2 M.length d) 52
    simpa using this
  have hz : w.heap.size + 2 ≤ W.heap.size := by rw [HW.out]; simp
  obtain ⟨x0, x1, x2, x3, x4⟩ := r1.cells5
  obtain ⟨y0, y1, y2, y3, y4⟩ := r2.cells5
  go_enter Tryz.func157, Tryz.ntmps157
  go_wp2_with fail
  rw [← HW.out]
  refine (HY.out _ bel).mono ?_
  rintro e w1 ⟨rfl, b1⟩
  have r1' := r1.below b1 (by omega)
  have r2' := r2.below b1 (by omega)
  have bel1 := below_chain bel b1
  have hz1 := Nat.le_trans hz b1.size
  clear x0 x1 x2 x3 x4 y0 y1 y2 y3 y4 r1 r2 HW
  obtain ⟨x0, x1, x2, x3, x4⟩ := r1'.cells5
  obtain ⟨y0, y1, y2, y3, y4⟩ := r2'.cells5
  cases BY
  · go_wp2_with fail
    refine (HX.out _ bel1).mono ?_
    rintro e w2 ⟨rfl, b2⟩
    have r1'' := r1'.below b2 (by omega)
    have r2'' := r2'.below b2 (by omega)
    have bel2 := below_chain bel1 b2
    clear x0 x1 x2 x3 x4 y0 y1 y2 y3 y4 r1' r2' bel1 bel
    obtain ⟨x0, x1, x2, x3, x4⟩ := r1''.cells5
    obtain ⟨y0, y1, y2, y3, y4⟩ := r2''.cells5
    cases BX
    · go_wp2
      go_ret
      exact ⟨by rw [HG.out]; simp, bel2⟩
    · go_wp2
      go_ret
      exact ⟨by rw [HG.out]; simp, bel2⟩
  · go_wp2
    go_ret
    exact ⟨by rw [HG.out]; simp, bel1⟩

end Go.Proofs.YtgkfdakieebnmaaGreat

namespace Go.Proofs.YtgkfdakieebnmaaGreat
open Go.RowKit Go.Sort

def chP (n : Nat) (p t : ByteArray) : Bool := rdB n p && (!rdB n t || givesB (rdP n t) (rdP n p))
def chX (n : Nat) (p t : ByteArray) : SheetV := if chP n p t = true then rdP n p else if rdB n t = true then rdP n t else sheet0
def chT (n : Nat) (p t : ByteArray) : Bool := !chP n p t && rdB n t
def chE (n : Nat) (p t : ByteArray) : Int := if chP n p t = true then 0 else if rdB n t = true then 0 else 60

theorem sh_ok {n : Nat} (hn : n < 4294967296) (s : ByteArray) {B : Nat} {w : World} {a : Option Addr} (h : StrsFrom B w a (rdP n s).slots) : (rdP n s).Ok w a := (rdP_fit hn s).ok h.at

structure ShOut (w : World) (X : SheetV) (f : Value → Ending) (x : Ending) (w' : World) : Prop where
  out : ∃ a c, x = f (X.val a c) ∧ StrsFrom w.heap.size w' a X.slots ∧ Below w.heap.size w w'

structure ChAt (w W : World) (q1 q2 : Nat) (X Y : SheetV) (a1 a2 : Option Addr) (c1 c2 : Nat) : Prop where
  z : Blk W (w.heap.size + 1) zero5 52
  x : Blk W q1 (X.arr a1 c1) 52
  y : Blk W q2 (Y.arr a2 c2) 52
  l1 : w.heap.size + 1 < q1
  l2 : q1 < q2
  l3 : q2 < W.heap.size
  sx : StrsFrom (w.heap.size + 2) W a1 X.slots
  sy : StrsFrom (w.heap.size + 2) W a2 Y.slots
  bel : Below w.heap.size w W

theorem ChAt.below {w W W' : World} {q1 q2 : Nat} {X Y : SheetV} {a1 a2 : Option Addr} {c1 c2 : Nat} (h : ChAt w W q1 q2 X Y a1 a2 c1 c2) (b : Below W.heap.size W W') : ChAt w W' q1 q2 X Y a1 a2 c1 c2 := by
  have h1 := h.l1
  have h2 := h.l2
  have h3 := h.l3
  exact ⟨h.z.same (b.block _ (by omega)), h.x.same (b.block _ (by omega)), h.y.same (b.block _ (by omega)), h1, h2, Nat.lt_of_lt_of_le h3 b.size, h.sx.below b, h.sy.below b, below_chain h.bel b⟩

structure ChC (w W : World) (q1 q2 : Nat) (X Y : SheetV) (a1 a2 : Option Addr) (c1 c2 : Nat) : Prop where
  x0 : W.cell? ⟨q1, 0, none⟩ = some (.int .u32 X.num)
  x1 : W.cell? ⟨q1, 1, none⟩ = some (.int .u64 X.lsn)
  x2 : W.cell? ⟨q1, 2, none⟩ = some (.int .i64 X.kind)
  x3 : W.cell? ⟨q1, 3, none⟩ = some (.string X.head)
  x4 : W.cell? ⟨q1, 4, none⟩ = some (.slice a1 X.slots.length c1)
  y0 : W.cell? ⟨q2, 0, none⟩ = some (.int .u32 Y.num)
  y1 : W.cell? ⟨q2, 1, none⟩ = some (.int .u64 Y.lsn)
  y2 : W.cell? ⟨q2, 2, none⟩ = some (.int .i64 Y.kind)
  y3 : W.cell? ⟨q2, 3, none⟩ = some (.string Y.head)
  y4 : W.cell? ⟨q2, 4, none⟩ = some (.slice a2 Y.slots.length c2)
  f0 : W.frozen? ⟨w.heap.size + 1, 0, none⟩ = false
  f1 : W.frozen? ⟨w.heap.size + 1, 1, none⟩ = false
  f2 : W.frozen? ⟨w.heap.size + 1, 2, none⟩ = false
  f3 : W.frozen? ⟨w.heap.size + 1, 3, none⟩ = false
  f4 : W.frozen? ⟨w.heap.size + 1, 4, none⟩ = false
  z0 : W.cell? ⟨w.heap.size + 1, 0, none⟩ = some (.int .u32 0)
  z1 : W.cell? ⟨w.heap.size + 1, 1, none⟩ = some (.int .u64 0)
  z2 : W.cell? ⟨w.heap.size + 1, 2, none⟩ = some (.int .i64 0)
  z3 : W.cell? ⟨w.heap.size + 1, 3, none⟩ = some (.string ⟨#[]⟩)
  z4 : W.cell? ⟨w.heap.size + 1, 4, none⟩ = some (.slice none 0 0)

theorem ChAt.cells {w W : World} {q1 q2 : Nat} {X Y : SheetV} {a1 a2 : Option Addr} {c1 c2 : Nat} (h : ChAt w W q1 q2 X Y a1 a2 c1 c2) : ChC w W q1 q2 X Y a1 a2 c1 c2 :=
  ⟨h.x.cell 0, h.x.cell 1, h.x.cell 2, h.x.cell 3, h.x.cell 4, h.y.cell 0, h.y.cell 1, h.y.cell 2, h.y.cell 3, h.y.cell 4, h.z.frozen 0, h.z.frozen 1, h.z.frozen 2, h.z.frozen 3, h.z.frozen 4, h.z.cell 0, h.z.cell 1, h.z.cell 2, h.z.cell 3, h.z.cell 4⟩

set_option maxHeartbeats 3200000 in
set_option maxRecDepth 60000 in
theorem choose_any (n : Nat) (p t : ByteArray) (w : World) (hn : n < 4294967296) (hp : p.size ≤ maxLen) (ht : t.size ≤ maxLen) :
    Calls Tryz.prog 103 #[.agg #[.string p, .string t], .int .u32 n] w (ShOut w (chX n p t) fun v => .returned (.tuple #[v, .bool (chT n p t), .int .i64 (chE n p t)])) := by
  have HR1 : Hid (∀ (W : World), Calls Tryz.prog 156 #[.int .u32 n, .string p] W fun x w' => ∃ a c, x = .returned (.tuple #[(rdP n p).val a c, .bool (rdB n p)]) ∧ StrsFrom W.heap.size w' a (rdP n p).slots ∧ Below W.heap.size W w') := fun W => readable_any n p W hn hp
  have HR2 : Hid (∀ (W : World), Calls Tryz.prog 156 #[.int .u32 n, .string t] W fun x w' => ∃ a c, x = .returned (.tuple #[(rdP n t).val a c, .bool (rdB n t)]) ∧ StrsFrom W.heap.size w' a (rdP n t).slots ∧ Below W.heap.size W w') := fun W => readable_any n t W hn ht
  have HG : Hid (∀ (a1 a2 : Option Addr) (c d B1 B2 : Nat) (W : World), StrsFrom B1 W a1 (rdP n t).slots → StrsFrom B2 W a2 (rdP n p).slots → Calls Tryz.prog 157 #[(rdP n t).val a1 c, (rdP n p).val a2 d] W fun e w' => e = .returned (.bool (givesB (rdP n t) (rdP n p))) ∧ Below W.heap.size W w') := fun a1 a2 c d B1 B2 W h1 h2 => gives_any _ _ a1 a2 c d W (sh_ok hn t h1) (sh_ok hn p h2)
  have HP : Hid (chP n p t = (rdB n p && (!rdB n t || givesB (rdP n t) (rdP n p)))) := rfl
  have HX : Hid (chX n p t = if chP n p t = true then rdP n p else if rdB n t = true then rdP n t else sheet0) := rfl
  have HT : Hid (chT n p t = (!chP n p t && rdB n t)) := rfl
  have HE : Hid (chE n p t = if chP n p t = true then 0 else if rdB n t = true then 0 else 60) := rfl
  generalize chX n p t = CX at *
  generalize chT n p t = CT at *
  generalize chE n p t = CE at *
  generalize chP n p t = CP at *
  generalize givesB (rdP n t) (rdP n p) = GB at *
  generalize rdP n p = X at *
  generalize rdB n p = BX at *
  generalize rdP n t = Y at *
  generalize rdB n t = BY at *
  obtain ⟨W0, HW0⟩ : ∃ W0, Hid (W0 = (w.alloc (.cells #[.string p, .string t] 186)).alloc (.cells #[.int .u32 0, .int .u64 0, .int .i64 0, .string ⟨#[]⟩, .slice none 0 0] 52)) := ⟨_, rfl⟩
  have b0 : Below w.heap.size w W0 := by rw [HW0.out]; exact ((Below.refl _ _).alloc (Nat.le_refl _) _).alloc (by simp) _
  have s0 : W0.heap.size = w.heap.size + 2 := by rw [HW0.out]; simp
  have kb : Blk W0 w.heap.size #[.string p, .string t] 186 := by rw [HW0.out]; exact (Blk.made w _ _).same (heap_old _ _ (by simp))
  have kz : Blk W0 (w.heap.size + 1) zero5 52 := by
    rw [HW0.out]
    have := Blk.made (w.alloc (.cells #[.string p, .string t] 186)) zero5 52
    have e : (w.alloc (.cells #[.string p, .string t] 186)).heap.size = w.heap.size + 1 := by simp
    rw [e] at this
    exact this
  have e0 : W0.cell? ⟨w.heap.size, 0, none⟩ = some (.string p) := kb.cell 0
  have e1 : W0.cell? ⟨w.heap.size, 1, none⟩ = some (.string t) := kb.cell 1
  go_enter Tryz.func103, Tryz.ntmps103
  go_wp2_with fail
  rw [← HW0.out]
  refine (HR1.out _).mono ?_
  rintro x w1 ⟨a1, c1, rfl, hs1, b1⟩
  have z1 : w.heap.size + 2 ≤ w1.heap.size := by have := b1.size; omega
  have kb1 := kb.same (b1.block _ (by omega))
  have kz1 := kz.same (b1.block _ (by omega))
  rw [s0] at hs1
  have bel1 := below_chain b0 b1
  clear e0 e1 kb kz b0 b1 HW0 s0
  have e1 : w1.cell? ⟨w.heap.size, 1, none⟩ = some (.string t) := kb1.cell 1
  have hl1 : w.heap.size < w1.heap.size := by omega
  have HXV : Hid (X.val a1 c1 = .agg #[.int .u32 X.num, .int .u64 X.lsn, .int .i64 X.kind, .string X.head, .slice a1 X.slots.length c1]) := rfl
  rw [HXV.out]
  obtain ⟨W2, HW2⟩ : ∃ W2, Hid (W2 = w1.alloc (.cells #[.int .u32 X.num, .int .u64 X.lsn, .int .i64 X.kind, .string X.head, .slice a1 X.slots.length c1] 52)) := ⟨_, rfl⟩
  go_wp2_with fail
  rw [← HW2.out]
  have z2 : W2.heap.size = w1.heap.size + 1 := by rw [HW2.out]; simp
  have b2 : Below w1.heap.size w1 W2 := by rw [HW2.out]; exact (Below.refl _ _).alloc (Nat.le_refl _) _
  have kx2 : Blk W2 w1.heap.size (X.arr a1 c1) 52 := by rw [HW2.out]; exact Blk.made w1 _ _
  have kz2 := kz1.same (b2.block _ (by omega))
  have hs2 := hs1.below b2
  have bel2 := below_chain bel1 b2
  clear HW2 b2 kz1 kb1 hs1 e1
  refine (HR2.out _).mono ?_
  rintro x w3 ⟨a2, c2, rfl, hs3, b3⟩
  have HYV : Hid (Y.val a2 c2 = .agg #[.int .u32 Y.num, .int .u64 Y.lsn, .int .i64 Y.kind, .string Y.head, .slice a2 Y.slots.length c2]) := rfl
  rw [HYV.out]
  obtain ⟨W4, HW4⟩ : ∃ W4, Hid (W4 = w3.alloc (.cells #[.int .u32 Y.num, .int .u64 Y.lsn, .int .i64 Y.kind, .string Y.head, .slice a2 Y.slots.length c2] 52)) := ⟨_, rfl⟩
  have b4 : Below w3.heap.size w3 W4 := by rw [HW4.out]; exact (Below.refl _ _).alloc (Nat.le_refl _) _
  have z3 := b3.size
  have C : ChAt w W4 w1.heap.size w3.heap.size X Y a1 a2 c1 c2 := by
    refine ⟨(kz2.same (b3.block _ (by omega))).same (b4.block _ (by omega)), (kx2.same (b3.block _ (by omega))).same (b4.block _ (by omega)), ?_, by omega, by omega, ?_, (hs2.below b3).below b4, (hs3.mono (by omega)).below b4, below_chain (below_chain bel2 b3) b4⟩
    · rw [HW4.out]; exact Blk.made w3 _ _
    · rw [HW4.out]; simp
  generalize w1.heap.size = q1 at *
  go_upto_region 3 with fail
  rw [← HW4.out]
  generalize w3.heap.size = q2 at *
  clear HW4 b4 b3 z3 hs3 hs2 kx2 kz2 bel2 z2 HXV HYV HR1 HR2 bel1 hl1 z1
  have l1 := C.l1
  have l2 := C.l2
  obtain ⟨x0, x1, x2, x3, x4, y0, y1, y2, y3, y4, f0, f1, f2, f3, f4, z0, z1, z2, z3, z4⟩ := C.cells
  cases BX
  · cases BY
    · go_wp2_with fail
      refine bodyPost_ret (v := .tuple #[.agg #[.int .u32 0, .int .u64 0, .int .i64 0, .string ⟨#[]⟩, .slice none 0 0], .bool false, .int .i64 60]) (by simp [results, Tryz.results103, go_sem, z0, z1, z2, z3, z4]) rfl ?_
      have hCP : CP = false := by rw [HP.out]; simp
      rw [hCP] at HX HT HE
      have hX : CX = sheet0 := by rw [HX.out]; simp
      have hT : CT = false := by rw [HT.out]; simp
      have hE : CE = 60 := by rw [HE.out]; simp
      rw [hX, hT, hE]
      exact ⟨⟨none, 0, rfl, .inl rfl, below_set5 C.bel (by omega) _ _ _ _ _⟩⟩
    · go_wp2_with fail
      refine bodyPost_ret (v := .tuple #[.agg #[.int .u32 Y.num, .int .u64 Y.lsn, .int .i64 Y.kind, .string Y.head, .slice a2 Y.slots.length c2], .bool true, .int .i64 0]) (by simp [results, Tryz.results103, go_sem, z0, z1, z2, z3, z4]) rfl ?_
      have hCP : CP = false := by rw [HP.out]; simp
      rw [hCP] at HX HT HE
      have hX : CX = Y := by rw [HX.out]; simp
      have hT : CT = true := by rw [HT.out]; simp
      have hE : CE = 0 := by rw [HE.out]; simp
      rw [hX, hT, hE]
      exact ⟨⟨a2, c2, rfl, (C.sy.store5 (by omega) _ _ _ _ _).mono (by omega), below_set5 C.bel (by omega) _ _ _ _ _⟩⟩
  · cases BY
    · go_wp2_with fail
      refine bodyPost_ret (v := .tuple #[.agg #[.int .u32 X.num, .int .u64 X.lsn, .int .i64 X.kind, .string X.head, .slice a1 X.slots.length c1], .bool false, .int .i64 0]) (by simp [results, Tryz.results103, go_sem, z0, z1, z2, z3, z4]) rfl ?_
      have hCP : CP = true := by rw [HP.out]; simp
      rw [hCP] at HX HT HE
      have hX : CX = X := by rw [HX.out]; simp
      have hT : CT = false := by rw [HT.out]; simp
      have hE : CE = 0 := by rw [HE.out]; simp
      rw [hX, hT, hE]
      exact ⟨⟨a1, c1, rfl, (C.sx.store5 (by omega) _ _ _ _ _).mono (by omega), below_set5 C.bel (by omega) _ _ _ _ _⟩⟩
    · go_wp2_with fail
      refine (HG.out a2 a1 c2 c1 _ _ _ C.sy C.sx).mono ?_
      rintro x w5 ⟨rfl, b5⟩
      have C5 := C.below b5
      clear C x0 x1 x2 x3 x4 y0 y1 y2 y3 y4 f0 f1 f2 f3 f4 z0 z1 z2 z3 z4
      obtain ⟨x0, x1, x2, x3, x4, y0, y1, y2, y3, y4, f0, f1, f2, f3, f4, z0, z1, z2, z3, z4⟩ := C5.cells
      cases GB
      · go_wp2_with fail
        refine bodyPost_ret (v := .tuple #[.agg #[.int .u32 Y.num, .int .u64 Y.lsn, .int .i64 Y.kind, .string Y.head, .slice a2 Y.slots.length c2], .bool true, .int .i64 0]) (by simp [results, Tryz.results103, go_sem, z0, z1, z2, z3, z4]) rfl ?_
        have hCP : CP = false := by rw [HP.out]; simp
        rw [hCP] at HX HT HE
        have hX : CX = Y := by rw [HX.out]; simp
        have hT : CT = true := by rw [HT.out]; simp
        have hE : CE = 0 := by rw [HE.out]; simp
        rw [hX, hT, hE]
        exact ⟨⟨a2, c2, rfl, (C5.sy.store5 (by omega) _ _ _ _ _).mono (by omega), below_set5 C5.bel (by omega) _ _ _ _ _⟩⟩
      · go_wp2_with fail
        refine bodyPost_ret (v := .tuple #[.agg #[.int .u32 X.num, .int .u64 X.lsn, .int .i64 X.kind, .string X.head, .slice a1 X.slots.length c1], .bool false, .int .i64 0]) (by simp [results, Tryz.results103, go_sem, z0, z1, z2, z3, z4]) rfl ?_
        have hCP : CP = true := by rw [HP.out]; simp
        rw [hCP] at HX HT HE
        have hX : CX = X := by rw [HX.out]; simp
        have hT : CT = false := by rw [HT.out]; simp
        have hE : CE = 0 := by rw [HE.out]; simp
        rw [hX, hT, hE]
        exact ⟨⟨a1, c1, rfl, (C5.sx.store5 (by omega) _ _ _ _ _).mono (by omega), below_set5 C5.bel (by omega) _ _ _ _ _⟩⟩

end Go.Proofs.YtgkfdakieebnmaaGreat

namespace Go.Proofs.YtgkfdakieebnmaaGreat
open Go.RowKit

def rawElem (v : Value) : Option (DataW Value × List MemPlace) := some (.held v, [])

def getV (D : DataW Value) (l : Lit) (z : Value) : Value := match D.atKey l (.held z) with | .held v => v | _ => z

def MapV (k : TypeId) (w : World) (b sz : Nat) (D : DataW Value) : Prop := w.ownsMap Tryz.prog k rawElem b sz D ∧ Maps.size D = sz

section
variable {k t e : TypeId} {w : World} {b sz : Nat} {D : DataW Value}

theorem MapV.lt (h : MapV k w b sz D) : b < w.heap.size := World.ownsMap.lt h.1

theorem MapV.isMap (h : MapV k w b sz D) : ∃ es c, w.heap[b]? = some (.map es c) := by
  obtain ⟨es, c, hb, _⟩ := h.1
  exact ⟨es, c, hb⟩

theorem MapV.same {w' : World} (h : MapV k w b sz D) (e : w'.heap[b]? = w.heap[b]?) : MapV k w' b sz D := by
  obtain ⟨es, c, hb, r⟩ := h.1
  exact ⟨⟨es, c, e.trans hb, r⟩, h.2⟩

theorem MapV.made (k : TypeId) (w : World) : MapV k (w.alloc (.map #[] 0)) w.heap.size 0 (.map []) := ⟨World.ownsMap_made _ _ _ _, rfl⟩

theorem MapV.of_le {n : Nat} (h : w.ownsMap Tryz.prog k rawElem b n D) : MapV k w b (Maps.size D) D := by
  refine ⟨?_, rfl⟩
  obtain ⟨es, c, hb, F, hs, hD⟩ := h
  refine ⟨es, c, hb, F, ?_, hD⟩
  rw [hD]
  simp [Maps.size, length_sorted]

theorem MapV.lookOk (h : MapV k w b sz D) (K : Maps.Keyed Tryz.prog k) (ht : Tryz.prog.underlying t = some (.map k e)) {z : Value} (hz : (zeroValue e).run Tryz.prog w = .ok z w) {key : Value} {l : Lit} (hk : keyOf Tryz.prog k key = some l) :
    (Instr.lookup t (.map (some b)) key true).run Tryz.prog w = .ok (.tuple #[getV D l z, .bool (Maps.has D l)]) w := by
  obtain ⟨v, ps, hr, hv⟩ := h.1.look_ok K ht hz (zd := .held z) (zp := []) rfl hk
  have hv' : DataW.held v = D.atKey l (.held z) := by
    unfold rawElem at hv
    simp only [Option.some.injEq, Prod.mk.injEq] at hv
    exact hv.1
  rw [hr]
  unfold getV
  rw [← hv']

theorem put_ex (k t e : TypeId) (b : Nat) (key val : Value) : ∃ u : World → World, ∀ (w : World) (sz : Nat) (D : DataW Value) (l : Lit), MapV k w b sz D → Maps.Keyed Tryz.prog k → Tryz.prog.underlying t = some (.map k e) → sz ≤ 1000000 → keyOf Tryz.prog k key = some l →
    (Instr.mapUpdate t (.map (some b)) key val).run Tryz.prog w = .ok () (u w) ∧ MapV k (u w) b (Maps.size (D.put l (.held val))) (D.put l (.held val)) ∧ w.mapTurned (u w) b := by
  refine ⟨fun w => match (Instr.mapUpdate t (.map (some b)) key val).run Tryz.prog w with
    | .ok _ w' => w'
    | _ => w, fun w sz D l h K ht hn hk => ?_⟩
  obtain ⟨w', hr, h1, h2⟩ := h.1.store K ht (by unfold maxLen; omega) hk (show rawElem val = some (.held val, []) from rfl)
  simp only [hr]
  exact ⟨trivial, MapV.of_le h1, h2⟩

theorem del_ex (k t e : TypeId) (b : Nat) (key : Value) (ty : TypeId) : ∃ u : World → World, ∀ (w : World) (sz : Nat) (D : DataW Value) (l : Lit), MapV k w b sz D → Maps.Keyed Tryz.prog k → Tryz.prog.underlying t = some (.map k e) → keyOf Tryz.prog k key = some l →
    (Builtin.delete_ #[t, k] ty #[.map (some b), key]).run Tryz.prog w = .ok (.tuple #[]) (u w) ∧ MapV k (u w) b (Maps.size (D.del l)) (D.del l) ∧ w.mapTurned (u w) b := by
  refine ⟨fun w => match (Builtin.delete_ #[t, k] ty #[.map (some b), key]).run Tryz.prog w with
    | .ok _ w' => w'
    | _ => w, fun w sz D l h K ht hk => ?_⟩
  obtain ⟨w', hr, h1, h2⟩ := h.1.drop K ht hk ty
  simp only [hr]
  exact ⟨trivial, MapV.of_le h1, h2⟩

theorem MapV.tidy (h : MapV k w b sz D) (K : Maps.Keyed Tryz.prog k) : Maps.Tidy D := h.1.tidy K

theorem getV_put_same (hD : Maps.IsMap D) {l : Lit} (hl : WideAt.IsKeyLit l) (v z : Value) : getV (D.put l (.held v)) l z = v := by
  unfold getV; rw [Maps.atKey_put_same hD hl]

theorem getV_put_other {l l' : Lit} (hne : l' ≠ l) (v z : Value) : getV (D.put l (.held v)) l' z = getV D l' z := by
  unfold getV; rw [Maps.atKey_put_other hne]

theorem getV_del_other {l l' : Lit} (hne : l' ≠ l) (z : Value) : getV (D.del l) l' z = getV D l' z := by
  unfold getV; rw [Maps.atKey_del_other hne]

theorem getV_none {l : Lit} (h : Maps.has D l = false) (z : Value) : getV D l z = z := by
  unfold getV; rw [Maps.atKey_of_not_has h]
end

end Go.Proofs.YtgkfdakieebnmaaGreat

namespace Go.Proofs.YtgkfdakieebnmaaGreat
open Go.RowKit Go.Sort

structure FrV where
  sh : SheetV
  since : Nat

def FrV.val (f : FrV) (a : Option Addr) (c : Nat) : Value := .agg #[.int .u32 f.sh.num, .int .u64 f.sh.lsn, .int .i64 f.sh.kind, .string f.sh.head, .slice a f.sh.slots.length c, .int .u64 f.since]

def zeroF : Value := .agg #[.int .u32 0, .int .u64 0, .int .i64 0, .string ⟨#[]⟩, .slice none 0 0, .int .u64 0]

structure PG where
  dp : Nat
  lp : Nat
  most : Nat
  F : Nat → Option FrV
  z : Nat
  picks : List Int
  fetched : Nat
  written : Nat

def StrsIn (S : Nat → Prop) (w : World) (a : Option Addr) (L : List ByteArray) : Prop :=
  L = [] ∨ ∃ b o, a = some ⟨b, o, none⟩ ∧ S b ∧ b < w.heap.size ∧ ∀ i (hi : i < L.length), w.cell? ⟨b, o + i, none⟩ = some (.string L[i])

theorem StrsIn.at {S : Nat → Prop} {w : World} {a : Option Addr} {L : List ByteArray} (h : StrsIn S w a L) : StrsAt w a L := by
  rcases h with h | ⟨b, o, e, _, hb, hc⟩
  · exact .inl h
  · exact .inr ⟨b, o, e, hb, hc⟩

theorem StrsIn.same {S : Nat → Prop} {w w' : World} {a : Option Addr} {L : List ByteArray} (h : StrsIn S w a L) (k : ∀ b, S b → w'.heap[b]? = w.heap[b]?) (hs : w.heap.size ≤ w'.heap.size) : StrsIn S w' a L := by
  rcases h with h | ⟨b, o, e, h1, hb, hc⟩
  · exact .inl h
  · exact .inr ⟨b, o, e, h1, Nat.lt_of_lt_of_le hb hs, fun i hi => (World.cell?_of_block (w := w) (a := ⟨b, o + i, none⟩) (k b h1)).trans (hc i hi)⟩

structure FrAt (S : Nat → Prop) (w : World) (n : Nat) (v : Value) (f : FrV) : Prop where
  val : ∃ a c, v = f.val a c ∧ StrsIn S w a f.sh.slots
  fits : f.sh.Fits
  num : f.sh.num = n
  since : f.since < 18446744073709551616

theorem FrAt.same {S : Nat → Prop} {w w' : World} {n : Nat} {v : Value} {f : FrV} (h : FrAt S w n v f) (k : ∀ b, S b → w'.heap[b]? = w.heap[b]?) (hs : w.heap.size ≤ w'.heap.size) : FrAt S w' n v f := by
  obtain ⟨⟨a, c, e, hm⟩, h2, h3, h4⟩ := h
  exact ⟨⟨a, c, e, hm.same k hs⟩, h2, h3, h4⟩

def PicksAt (w : World) (v : Value) (L : List Int) : Prop :=
  ∃ a c, v = .slice a L.length c ∧ L.length ≤ c ∧ c ≤ maxLen ∧ (L = [] ∨ ∃ b o, a = some ⟨b, o, none⟩ ∧ b < w.heap.size ∧ ∀ i (hi : i < L.length), w.cell? ⟨b, o + i, none⟩ = some (.int .i64 L[i]))

theorem PicksAt.same {w w' : World} {v : Value} {L : List Int} (h : PicksAt w v L) (k : ∀ b, v.ownBlock = some b → w'.heap[b]? = w.heap[b]?) (hs : w.heap.size ≤ w'.heap.size) : PicksAt w' v L := by
  obtain ⟨a, c, rfl, h1, h2, h3⟩ := h
  refine ⟨a, c, rfl, h1, h2, ?_⟩
  rcases h3 with h | ⟨b, o, rfl, hb, hc⟩
  · exact .inl h
  · exact .inr ⟨b, o, rfl, Nat.lt_of_lt_of_le hb hs, fun i hi => (World.cell?_of_block (w := w) (a := ⟨b, o + i, none⟩) (k b rfl)).trans (hc i hi)⟩

def pvals (fb : Nat) (pv : Value) (P : PG) : Array Value :=
  #[.pointer (some ⟨P.dp, 0, none⟩), .pointer (some ⟨P.lp, 0, none⟩), .int .i64 P.most, .map (some fb), pv, .int .i64 P.fetched, .int .i64 P.written]

structure FrsAt (S : Nat → Prop) (w : World) (D : DataW Value) (F : Nat → Option FrV) : Prop where
  no : ∀ n, n < 4294967296 → F n = none → Maps.has D (keyL n) = false
  yes : ∀ n f, n < 4294967296 → F n = some f → Maps.has D (keyL n) = true ∧ FrAt S w n (getV D (keyL n) zeroF) f
  keys : ∀ l, Maps.has D l = true → ∃ n, 1 ≤ n ∧ n ≤ 2048 ∧ l = keyL n

structure PoolAt (w : World) (p fb : Nat) (pv : Value) (D : DataW Value) (S : Nat → Prop) (P : PG) : Prop where
  blk : Blk w p (pvals fb pv P) 103
  map : MapV 49 w fb P.z D
  frs : FrsAt S w D P.F
  picks : PicksAt w pv P.picks
  sp : S p
  sf : S fb
  sv : ∀ b, pv.ownBlock = some b → S b
  sq : ∀ b, pv.ownBlock = some b → b ≠ p
  lt : ∀ k, S k → k < w.heap.size

def IsPool (w : World) (p : Nat) (S : Nat → Prop) (P : PG) : Prop := ∃ fb pv D, PoolAt w p fb pv D S P

theorem FrsAt.same {S : Nat → Prop} {w w' : World} {D : DataW Value} {F : Nat → Option FrV} (h : FrsAt S w D F) (k : ∀ b, S b → w'.heap[b]? = w.heap[b]?) (hs : w.heap.size ≤ w'.heap.size) : FrsAt S w' D F :=
  ⟨h.no, fun n f hn e => ⟨(h.yes n f hn e).1, (h.yes n f hn e).2.same k hs⟩, h.keys⟩

theorem PoolAt.same {w w' : World} {p fb : Nat} {pv : Value} {D : DataW Value} {S : Nat → Prop} {P : PG} (h : PoolAt w p fb pv D S P) (k : ∀ b, S b → w'.heap[b]? = w.heap[b]?) (hs : w.heap.size ≤ w'.heap.size) : PoolAt w' p fb pv D S P :=
  ⟨h.blk.same (k p h.sp), h.map.same (k fb h.sf), h.frs.same k hs, h.picks.same (fun b e => k b (h.sv b e)) hs, h.sp, h.sf, h.sv, h.sq, fun b hb => Nat.lt_of_lt_of_le (h.lt b hb) hs⟩

theorem IsPool.same {w w' : World} {p : Nat} {S : Nat → Prop} {P : PG} (h : IsPool w p S P) (k : ∀ b, S b → w'.heap[b]? = w.heap[b]?) (hs : w.heap.size ≤ w'.heap.size) : IsPool w' p S P := by
  obtain ⟨fb, pv, D, h⟩ := h
  exact ⟨fb, pv, D, h.same k hs⟩

theorem IsPool.lt {w : World} {p : Nat} {S : Nat → Prop} {P : PG} (h : IsPool w p S P) {k : Nat} (hk : S k) : k < w.heap.size := by
  obtain ⟨fb, pv, D, h⟩ := h
  exact h.lt k hk

theorem PoolAt.below {w w' : World} {p fb : Nat} {pv : Value} {D : DataW Value} {S : Nat → Prop} {P : PG} (h : PoolAt w p fb pv D S P) (k : Below w.heap.size w w') : PoolAt w' p fb pv D S P :=
  h.same (fun b hb => k.block b (h.lt b hb)) k.size

theorem IsPool.below {w w' : World} {p : Nat} {S : Nat → Prop} {P : PG} (h : IsPool w p S P) (k : Below w.heap.size w w') : IsPool w' p S P := by
  obtain ⟨fb, pv, D, h⟩ := h
  exact ⟨fb, pv, D, h.below k⟩

structure PCells (w : World) (p fb : Nat) (pv : Value) (P : PG) : Prop where
  c0 : w.cell? ⟨p, 0, none⟩ = some (.pointer (some ⟨P.dp, 0, none⟩))
  c1 : w.cell? ⟨p, 1, none⟩ = some (.pointer (some ⟨P.lp, 0, none⟩))
  c2 : w.cell? ⟨p, 2, none⟩ = some (.int .i64 P.most)
  c3 : w.cell? ⟨p, 3, none⟩ = some (.map (some fb))
  c4 : w.cell? ⟨p, 4, none⟩ = some pv
  c5 : w.cell? ⟨p, 5, none⟩ = some (.int .i64 P.fetched)
  c6 : w.cell? ⟨p, 6, none⟩ = some (.int .i64 P.written)
  fr : ∀ i, w.frozen? ⟨p, i, none⟩ = false

theorem PoolAt.cells {w : World} {p fb : Nat} {pv : Value} {D : DataW Value} {S : Nat → Prop} {P : PG} (h : PoolAt w p fb pv D S P) : PCells w p fb pv P :=
  ⟨h.blk.cell 0, h.blk.cell 1, h.blk.cell 2, h.blk.cell 3, h.blk.cell 4, h.blk.cell 5, h.blk.cell 6, h.blk.frozen⟩

theorem PoolAt.pf {w : World} {p fb : Nat} {pv : Value} {D : DataW Value} {S : Nat → Prop} {P : PG} (h : PoolAt w p fb pv D S P) : fb ≠ p := by
  rintro rfl
  obtain ⟨es, c, e⟩ := h.map.isMap
  have := h.blk
  unfold Blk at this
  rw [e] at this
  cases this

structure Sys (w : World) (p : Nat) (A : Nat → Prop) (P : PG) (l : LG) (d : DG) : Prop where
  ex : ∃ S L D, IsPool w p S P ∧ IsLog w P.lp L l ∧ IsDisk w P.dp D d ∧ (∀ k, S k → ¬ L k) ∧ (∀ k, S k → ¬ D k) ∧ (∀ k, L k → ¬ D k) ∧ ∀ k, S k ∨ L k ∨ D k → A k
  ld : l.dp = P.dp
  lt : ∀ k, A k → k < w.heap.size

theorem Sys.same {w w' : World} {p : Nat} {A : Nat → Prop} {P : PG} {l : LG} {d : DG} (h : Sys w p A P l d) (k : ∀ b, A b → w'.heap[b]? = w.heap[b]?) (hs : w.heap.size ≤ w'.heap.size) : Sys w' p A P l d := by
  obtain ⟨⟨S, L, D, h1, h2, h3, h4, h5, h6, h7⟩, h8, h9⟩ := h
  exact ⟨⟨S, L, D, h1.same (fun b hb => k b (h7 b (.inl hb))) hs, h2.same (fun b hb => k b (h7 b (.inr (.inl hb)))) hs, h3.same (fun b hb => k b (h7 b (.inr (.inr hb)))) hs, h4, h5, h6, h7⟩, h8, fun b hb => Nat.lt_of_lt_of_le (h9 b hb) hs⟩

theorem Sys.below {w w' : World} {p : Nat} {A : Nat → Prop} {P : PG} {l : LG} {d : DG} (h : Sys w p A P l d) (k : Below w.heap.size w w') : Sys w' p A P l d :=
  h.same (fun b hb => k.block b (h.lt b hb)) k.size

end Go.Proofs.YtgkfdakieebnmaaGreat

namespace Go.Proofs.YtgkfdakieebnmaaGreat
open Go.RowKit Go.Sort

set_option maxHeartbeats 1600000 in
set_option maxRecDepth 8000 in
theorem read_err {w : World} {p : Nat} {S : Nat → Prop} {d : DG} (h : IsDisk w p S d) (hd : d.dead = false) (q : Nat) (hq : q < 4294967296) (hc : checkE d.room q ≠ 0) :
    Calls Tryz.prog 154 #[.pointer (some ⟨p, 0, none⟩), .int .u32 q] w fun x w' => x = .returned (.tuple #[.string ⟨#[]⟩, .int .i64 (checkE d.room q)]) ∧ w' = w := by
  obtain ⟨m, hD, _⟩ := h
  have HD : Hid (DiskAt w p m d) := hD
  have HC : Hid (Calls Tryz.prog 199 #[.pointer (some ⟨p, 0, none⟩), .int .u32 q] w fun x w' => x = .returned (.int .i64 (checkE d.room q)) ∧ w' = w) := dcheck_any hD.blk.cells q hq
  clear hD
  generalize checkE d.room q = E at *
  go_enter Tryz.func154, Tryz.ntmps154
  go_wp2_with fail
  refine (dead_any HD.out.blk.cells).mono ?_
  rintro x w1 ⟨rfl, rfl⟩
  rw [hd]
  go_wp2_with fail
  refine HC.out.mono ?_
  rintro x w1 ⟨rfl, rfl⟩
  go_wp2
  go_ret2
  exact ⟨rfl, rfl⟩

theorem twinOf_any (n : Nat) (w : World) (hn : n ≤ 2048) : Calls Tryz.prog 155 #[.int .u32 n] w fun x w' => x = .returned (.int .u32 ((n + 2048 : Nat) : Int)) ∧ w' = w := by
  go_enter Tryz.func155, Tryz.ntmps155
  go_wp2
  go_ret
  exact ⟨by simp, rfl⟩

theorem ret_boolP {a b : Bool} (h : a = b) : Ending.returned (.bool a) = .returned (.bool b) := by rw [h]

theorem pmayBe_any (n : Nat) (w : World) (hn : n < 4294967296) : Calls Tryz.prog 43 #[.int .u32 n] w fun x w' => x = .returned (.bool (decide (1 ≤ n ∧ n ≤ 2048))) ∧ w' = w := by
  by_cases h : 1 ≤ n
  · have h' : (1 : Int) ≤ n := by omega
    go_enter Tryz.func43, Tryz.ntmps43
    go_wp2
    go_ret
    exact ⟨ret_boolP (by rw [Bool.eq_iff_iff]; simp <;> omega), rfl⟩
  · have h' : ¬ (1 : Int) ≤ n := by omega
    go_enter Tryz.func43, Tryz.ntmps43
    go_wp2
    go_ret
    exact ⟨ret_boolP rfl, rfl⟩

theorem check_twin {room n : Nat} (hn : n ≤ 2048) (hc : checkE room n = 0) : checkE room (n + 2048) = 0 := by
  unfold checkE at hc ⊢
  split at hc
  · cases hc
  · split at hc
    · cases hc
    · rw [if_neg (by omega), if_neg (by omega)]

set_option maxHeartbeats 1600000 in
set_option maxRecDepth 8000 in
theorem pread_ok {w : World} {p dp : Nat} {D : Nat → Prop} {d : DG} (hc0 : w.cell? ⟨p, 0, none⟩ = some (.pointer (some ⟨dp, 0, none⟩))) (hlt : p < w.heap.size) (hd : IsDisk w dp D d) (hD : d.dead = false) (n : Nat) (hn : n ≤ 2048) (hc : checkE d.room n = 0) (hs : ∀ q, (readD d q).size ≤ 1000000) :
    Calls Tryz.prog 102 #[.pointer (some ⟨p, 0, none⟩), .int .u32 n] w fun x w' => x = .returned (.tuple #[.agg #[.string (readD d n), .string (readD d (n + 2048))], .int .i64 0]) ∧ Below w.heap.size w w' := by
  have HR1 : Hid (∀ W, Below w.heap.size w W → Calls Tryz.prog 154 #[.pointer (some ⟨dp, 0, none⟩), .int .u32 n] W fun x w' => x = .returned (.tuple #[.string (readD d n), .int .i64 0]) ∧ Below W.heap.size W w') := fun W hb => read_out (hd.below hb) hD n (by omega) hc (hs n)
  have HR2 : Hid (∀ W, Below w.heap.size w W → Calls Tryz.prog 154 #[.pointer (some ⟨dp, 0, none⟩), .int .u32 ((n + 2048 : Nat) : Int)] W fun x w' => x = .returned (.tuple #[.string (readD d (n + 2048)), .int .i64 0]) ∧ Below W.heap.size W w') := fun W hb => read_out (hd.below hb) hD (n + 2048) (by omega) (check_twin hn hc) (hs _)
  have HT : Hid (∀ W, Calls Tryz.prog 155 #[.int .u32 n] W fun x w' => x = .returned (.int .u32 ((n + 2048 : Nat) : Int)) ∧ w' = W) := fun W => twinOf_any n W hn
  clear hs hc hD hd
  generalize readD d n = s1 at *
  generalize readD d (n + 2048) = s2 at *
  go_enter Tryz.func102, Tryz.ntmps102
  go_wp2_with fail
  refine (HR1.out _ ((Below.refl _ _).alloc (Nat.le_refl _) _)).mono ?_
  rintro x w1 ⟨rfl, b1⟩
  have bel1 : Below w.heap.size w w1 := ((Below.refl _ _).alloc (Nat.le_refl _) _).trans (b1.mono (by simp))
  have kz : Blk w1 w.heap.size #[.string ⟨#[]⟩, .string ⟨#[]⟩] 186 := (Blk.made w _ _).same (b1.block _ (by simp))
  have g0 : w1.cell? ⟨p, 0, none⟩ = some (.pointer (some ⟨dp, 0, none⟩)) := (bel1.cell (p := ⟨p, 0, none⟩) hlt).trans hc0
  have z1 : w.heap.size < w1.heap.size := by have := b1.size; simp at this; omega
  clear hc0 b1
  have gg0 := cell_regrown g0
  have cT : ∀ dd os, Calls Tryz.prog 155 #[.int .u32 n] (grow (redrawn w1 dd) os) fun e w'' => e = .returned (.int .u32 ((n + 2048 : Nat) : Int)) ∧ ∃ p : Regrown, w'' = grow (redrawn w1 p.d) p.os := fun dd os => Calls.regrown_of ((HT.out _).mono fun x w' hx => ⟨hx.1, by rw [hx.2]; exact Below.refl _ _⟩)
  have cR : ∀ dd os, Calls Tryz.prog 154 #[.pointer (some ⟨dp, 0, none⟩), .int .u32 ((n + 2048 : Nat) : Int)] (grow (redrawn w1 dd) os) fun e w'' => e = .returned (.tuple #[.string s2, .int .i64 0]) ∧ ∃ p : Regrown, w'' = grow (redrawn w1 p.d) p.os := fun dd os => Calls.regrown_of (HR2.out _ (below_chain bel1 (below_regrown w1 dd os)))
  go_wp2_with fail
  refine wp_region_quiet_below mixed (by kernel_rfl) ?_
  repeat (quiet_step (first | exact cT _ _ | exact cR _ _))
  refine wpQuiet_nil ?_
  intro _ hw'
  obtain ⟨⟨dq, osq⟩, hw''⟩ := hw'
  subst hw''
  have b2 := below_regrown w1 dq osq
  obtain ⟨w2, HW2⟩ : ∃ w2, Hid (w2 = grow (redrawn w1 dq) osq) := ⟨_, rfl⟩
  rw [← HW2.out] at b2
  rw [← HW2.out]
  clear HW2 gg0 cT cR
  have kz2 := kz.same (b2.block _ z1)
  have f0 := kz2.frozen 0
  have f1 := kz2.frozen 1
  have e0 : w2.cell? ⟨w.heap.size, 0, none⟩ = some (.string ⟨#[]⟩) := kz2.cell 0
  have e1 : w2.cell? ⟨w.heap.size, 1, none⟩ = some (.string ⟨#[]⟩) := kz2.cell 1
  go_wp2
  refine bodyPost_ret (v := .tuple #[.agg #[.string s1, .string s2], .int .i64 0]) (by simp [results, Tryz.results102, go_sem, e0, e1]) rfl ?_
  exact ⟨rfl, ((below_chain bel1 b2).setCell (p := ⟨w.heap.size, 0, none⟩) (Nat.le_refl _) _).setCell (p := ⟨w.heap.size, 1, none⟩) (Nat.le_refl _) _⟩

set_option maxHeartbeats 1600000 in
set_option maxRecDepth 8000 in
theorem pread_no {w : World} {p dp : Nat} {D : Nat → Prop} {d : DG} (hc0 : w.cell? ⟨p, 0, none⟩ = some (.pointer (some ⟨dp, 0, none⟩))) (hlt : p < w.heap.size) (hd : IsDisk w dp D d) (hD : d.dead = false) (n : Nat) (hn : n ≤ 2048) (hc : checkE d.room n ≠ 0) :
    Calls Tryz.prog 102 #[.pointer (some ⟨p, 0, none⟩), .int .u32 n] w fun x w' => x = .returned (.tuple #[.agg #[.string ⟨#[]⟩, .string ⟨#[]⟩], .int .i64 (checkE d.room n)]) ∧ Below w.heap.size w w' := by
  have HR1 : Hid (∀ W, Below w.heap.size w W → Calls Tryz.prog 154 #[.pointer (some ⟨dp, 0, none⟩), .int .u32 n] W fun x w' => x = .returned (.tuple #[.string ⟨#[]⟩, .int .i64 (checkE d.room n)]) ∧ w' = W) := fun W hb => read_err (hd.below hb) hD n (by omega) hc
  clear hd hD
  generalize checkE d.room n = E at *
  go_enter Tryz.func102, Tryz.ntmps102
  go_wp2_with fail
  refine (HR1.out _ ((Below.refl _ _).alloc (Nat.le_refl _) _)).mono ?_
  rintro x w1 ⟨rfl, rfl⟩
  go_wp2
  refine bodyPost_ret (v := .tuple #[.agg #[.string ⟨#[]⟩, .string ⟨#[]⟩], .int .i64 E]) (by simp [results, Tryz.results102, go_sem]) rfl ?_
  exact ⟨rfl, (Below.refl _ _).alloc (Nat.le_refl _) _⟩

def feX (d : DG) (n : Nat) : SheetV := if checkE d.room n = 0 then chX n (readD d n) (readD d (n + 2048)) else sheet0
def feE (d : DG) (n : Nat) : Int := if checkE d.room n = 0 then chE n (readD d n) (readD d (n + 2048)) else checkE d.room n

set_option maxHeartbeats 1600000 in
set_option maxRecDepth 8000 in
theorem fetch_any {w : World} {p dp : Nat} {D : Nat → Prop} {d : DG} (hc0 : w.cell? ⟨p, 0, none⟩ = some (.pointer (some ⟨dp, 0, none⟩))) (hlt : p < w.heap.size) (hd : IsDisk w dp D d) (hD : d.dead = false) (n : Nat) (hn : n ≤ 2048) (hs : ∀ q, (readD d q).size ≤ 1000000) :
    Calls Tryz.prog 45 #[.pointer (some ⟨p, 0, none⟩), .int .u32 n] w (ShOut w (feX d n) fun v => .returned (.tuple #[v, .int .i64 (feE d n)])) := by
  have hcA : ∀ W, Below w.heap.size w W → W.cell? ⟨p, 0, none⟩ = some (.pointer (some ⟨dp, 0, none⟩)) := fun W hb => (hb.cell (p := ⟨p, 0, none⟩) hlt).trans hc0
  by_cases hc : checkE d.room n = 0
  · have HR : Hid (∀ W, Below w.heap.size w W → Calls Tryz.prog 102 #[.pointer (some ⟨p, 0, none⟩), .int .u32 n] W fun x w' => x = .returned (.tuple #[.agg #[.string (readD d n), .string (readD d (n + 2048))], .int .i64 0]) ∧ Below W.heap.size W w') := fun W hb => pread_ok (hcA W hb) (Nat.lt_of_lt_of_le hlt hb.size) (hd.below hb) hD n hn hc hs
    have HC : Hid (∀ W, Calls Tryz.prog 103 #[.agg #[.string (readD d n), .string (readD d (n + 2048))], .int .u32 n] W (ShOut W (chX n (readD d n) (readD d (n + 2048))) fun v => .returned (.tuple #[v, .bool (chT n (readD d n) (readD d (n + 2048))), .int .i64 (chE n (readD d n) (readD d (n + 2048)))]))) := fun W => choose_any n _ _ W (by omega) (by have := hs n; unfold maxLen; omega) (by have := hs (n + 2048); unfold maxLen; omega)
    have e1 : feX d n = chX n (readD d n) (readD d (n + 2048)) := by unfold feX; rw [if_pos hc]
    have e2 : feE d n = chE n (readD d n) (readD d (n + 2048)) := by unfold feE; rw [if_pos hc]
    rw [e1, e2]
    clear e1 e2 hs hc hD hd hcA hc0
    generalize chX n (readD d n) (readD d (n + 2048)) = X at *
    generalize chT n (readD d n) (readD d (n + 2048)) = T at *
    generalize chE n (readD d n) (readD d (n + 2048)) = E at *
    generalize readD d n = s1 at *
    generalize readD d (n + 2048) = s2 at *
    go_enter Tryz.func45, Tryz.ntmps45
    go_wp2_with fail
    refine (HR.out _ ((Below.refl _ _).alloc (Nat.le_refl _) _)).mono ?_
    rintro x w1 ⟨rfl, b1⟩
    have bel1 : Below w.heap.size w w1 := ((Below.refl _ _).alloc (Nat.le_refl _) _).trans (b1.mono (by simp))
    have kz : Blk w1 w.heap.size zero5 52 := (Blk.made w _ _).same (b1.block _ (by simp))
    have z1 : w.heap.size < w1.heap.size := by have := b1.size; simp at this; omega
    clear b1
    obtain ⟨W2, HW2⟩ : ∃ W2, Hid (W2 = w1.alloc (.cells #[.string s1, .string s2] 186)) := ⟨_, rfl⟩
    have b2 : Below w1.heap.size w1 W2 := by rw [HW2.out]; exact (Below.refl _ _).alloc (Nat.le_refl _) _
    go_wp2_with fail
    rw [← HW2.out]
    have kz2 := kz.same (b2.block _ z1)
    have bel2 := below_chain bel1 b2
    have z2 : w.heap.size < W2.heap.size := Nat.lt_of_lt_of_le z1 b2.size
    clear HW2 b2 kz z1 bel1
    refine (HC.out _).mono ?_
    rintro x w3 ⟨a, c, rfl, hs3, b3⟩
    have kz3 := kz2.same (b3.block _ z2)
    have bel3 := below_chain bel2 b3
    have z3 : w.heap.size < w3.heap.size := Nat.lt_of_lt_of_le z2 b3.size
    have hs3' : StrsFrom (w.heap.size + 1) w3 a X.slots := hs3.mono (by omega)
    have HXV : Hid (X.val a c = .agg #[.int .u32 X.num, .int .u64 X.lsn, .int .i64 X.kind, .string X.head, .slice a X.slots.length c]) := rfl
    rw [HXV.out]
    clear hs3 kz2 bel2 z2 b3
    have f0 := kz3.frozen 0
    have f1 := kz3.frozen 1
    have f2 := kz3.frozen 2
    have f3 := kz3.frozen 3
    have f4 := kz3.frozen 4
    have e0 : w3.cell? ⟨w.heap.size, 0, none⟩ = some (.int .u32 0) := kz3.cell 0
    have e1 : w3.cell? ⟨w.heap.size, 1, none⟩ = some (.int .u64 0) := kz3.cell 1
    have e2 : w3.cell? ⟨w.heap.size, 2, none⟩ = some (.int .i64 0) := kz3.cell 2
    have e3 : w3.cell? ⟨w.heap.size, 3, none⟩ = some (.string ⟨#[]⟩) := kz3.cell 3
    have e4 : w3.cell? ⟨w.heap.size, 4, none⟩ = some (.slice none 0 0) := kz3.cell 4
    go_wp2
    refine bodyPost_ret (v := .tuple #[.agg #[.int .u32 X.num, .int .u64 X.lsn, .int .i64 X.kind, .string X.head, .slice a X.slots.length c], .int .i64 E]) (by simp [results, Tryz.results45, go_sem, e0, e1, e2, e3, e4, z3]) rfl ?_
    exact ⟨⟨a, c, rfl, rd_over w3 _ _ _ _ _ _ _ hs3', (below_set5 bel3 (Nat.le_refl _) _ _ _ _ _).alloc (by rw [store5_size]; omega) _⟩⟩
  · have HR : Hid (∀ W, Below w.heap.size w W → Calls Tryz.prog 102 #[.pointer (some ⟨p, 0, none⟩), .int .u32 n] W fun x w' => x = .returned (.tuple #[.agg #[.string ⟨#[]⟩, .string ⟨#[]⟩], .int .i64 (checkE d.room n)]) ∧ Below W.heap.size W w') := fun W hb => pread_no (hcA W hb) (Nat.lt_of_lt_of_le hlt hb.size) (hd.below hb) hD n hn hc
    have e1 : feX d n = sheet0 := by unfold feX; rw [if_neg hc]
    have e2 : feE d n = checkE d.room n := by unfold feE; rw [if_neg hc]
    rw [e1, e2]
    clear e1 e2 hs hD hd hcA hc0
    generalize checkE d.room n = E at *
    go_enter Tryz.func45, Tryz.ntmps45
    go_wp2_with fail
    refine (HR.out _ ((Below.refl _ _).alloc (Nat.le_refl _) _)).mono ?_
    rintro x w1 ⟨rfl, b1⟩
    have bel1 : Below w.heap.size w w1 := ((Below.refl _ _).alloc (Nat.le_refl _) _).trans (b1.mono (by simp))
    have kz : Blk w1 w.heap.size zero5 52 := (Blk.made w _ _).same (b1.block _ (by simp))
    have z1 : w.heap.size < w1.heap.size := by have := b1.size; simp at this; omega
    have f0 := kz.frozen 0
    have f1 := kz.frozen 1
    have f2 := kz.frozen 2
    have f3 := kz.frozen 3
    have f4 := kz.frozen 4
    have e0 : w1.cell? ⟨w.heap.size, 0, none⟩ = some (.int .u32 0) := kz.cell 0
    have e1 : w1.cell? ⟨w.heap.size, 1, none⟩ = some (.int .u64 0) := kz.cell 1
    have e2 : w1.cell? ⟨w.heap.size, 2, none⟩ = some (.int .i64 0) := kz.cell 2
    have e3 : w1.cell? ⟨w.heap.size, 3, none⟩ = some (.string ⟨#[]⟩) := kz.cell 3
    have e4 : w1.cell? ⟨w.heap.size, 4, none⟩ = some (.slice none 0 0) := kz.cell 4
    go_wp2
    refine bodyPost_ret (v := .tuple #[.agg #[.int .u32 0, .int .u64 0, .int .i64 0, .string ⟨#[]⟩, .slice none 0 0], .int .i64 E]) (by simp [results, Tryz.results45, go_sem, e0, e1, e2, e3, e4, z1]) rfl ?_
    exact ⟨⟨none, 0, rfl, .inl rfl, (below_set5 bel1 (Nat.le_refl _) _ _ _ _ _).alloc (by rw [store5_size]; omega) _⟩⟩

end Go.Proofs.YtgkfdakieebnmaaGreat

namespace Go.Proofs.YtgkfdakieebnmaaGreat
open Go.RowKit Go.Sort

theorem cell_noMap {w : World} {b fb : Nat} {o : Nat} {v : Value} (h : w.cell? ⟨b, o, none⟩ = some v) (hm : ∃ es c, w.heap[fb]? = some (.map es c)) : b ≠ fb := by
  rintro rfl
  obtain ⟨es, c, e⟩ := hm
  simp [World.cell?, e] at h

theorem StrsIn.turn {S S' : Nat → Prop} {w w' : World} {a : Option Addr} {L : List ByteArray} {fb : Nat} (h : StrsIn S w a L) (hm : ∃ es c, w.heap[fb]? = some (.map es c)) (k : ∀ b, S b → b ≠ fb → w'.heap[b]? = w.heap[b]?) (hs : w.heap.size ≤ w'.heap.size) (hS : ∀ b, S b → S' b) : StrsIn S' w' a L := by
  rcases h with h | ⟨b, o, e, h1, hb, hc⟩
  · exact .inl h
  · by_cases hL : L = []
    · exact .inl hL
    · have h0 : 0 < L.length := List.length_pos_iff.2 hL
      have hne : b ≠ fb := cell_noMap (hc 0 h0) hm
      exact .inr ⟨b, o, e, hS b h1, Nat.lt_of_lt_of_le hb hs, fun i hi => (World.cell?_of_block (w := w) (a := ⟨b, o + i, none⟩) (k b h1 hne)).trans (hc i hi)⟩

theorem FrAt.turn {S S' : Nat → Prop} {w w' : World} {n : Nat} {v : Value} {f : FrV} {fb : Nat} (h : FrAt S w n v f) (hm : ∃ es c, w.heap[fb]? = some (.map es c)) (k : ∀ b, S b → b ≠ fb → w'.heap[b]? = w.heap[b]?) (hs : w.heap.size ≤ w'.heap.size) (hS : ∀ b, S b → S' b) : FrAt S' w' n v f := by
  obtain ⟨⟨a, c, e, hm'⟩, h2, h3, h4⟩ := h
  exact ⟨⟨a, c, e, hm'.turn hm k hs hS⟩, h2, h3, h4⟩

theorem PicksAt.turn {w w' : World} {v : Value} {L : List Int} {fb : Nat} {S : Nat → Prop} (h : PicksAt w v L) (hv : ∀ b, v.ownBlock = some b → S b) (hm : ∃ es c, w.heap[fb]? = some (.map es c)) (k : ∀ b, S b → b ≠ fb → w'.heap[b]? = w.heap[b]?) (hs : w.heap.size ≤ w'.heap.size) : PicksAt w' v L := by
  obtain ⟨a, c, rfl, h1, h2, h3⟩ := h
  refine ⟨a, c, rfl, h1, h2, ?_⟩
  rcases h3 with h | ⟨b, o, rfl, hb, hc⟩
  · exact .inl h
  · by_cases hL : L = []
    · exact .inl hL
    · have h0 : 0 < L.length := List.length_pos_iff.2 hL
      have hne : b ≠ fb := cell_noMap (hc 0 h0) hm
      exact .inr ⟨b, o, rfl, Nat.lt_of_lt_of_le hb hs, fun i hi => (World.cell?_of_block (w := w) (a := ⟨b, o + i, none⟩) (k b (hv b rfl) hne)).trans (hc i hi)⟩

theorem FrsAt.turn {S S' : Nat → Prop} {w w' : World} {D : DataW Value} {F : Nat → Option FrV} {fb : Nat} (h : FrsAt S w D F) (hm : ∃ es c, w.heap[fb]? = some (.map es c)) (k : ∀ b, S b → b ≠ fb → w'.heap[b]? = w.heap[b]?) (hs : w.heap.size ≤ w'.heap.size) (hS : ∀ b, S b → S' b) : FrsAt S' w' D F :=
  ⟨h.no, fun n f hn e => ⟨(h.yes n f hn e).1, (h.yes n f hn e).2.turn hm k hs hS⟩, h.keys⟩

def setFr (F : Nat → Option FrV) (n : Nat) (f : FrV) : Nat → Option FrV := fun q => if q = n then some f else F q
def delFr (F : Nat → Option FrV) (n : Nat) : Nat → Option FrV := fun q => if q = n then none else F q

theorem FrsAt.put {S : Nat → Prop} {w : World} {D : DataW Value} {F : Nat → Option FrV} (h : FrsAt S w D F) (hI : Maps.IsMap D) {n : Nat} (h1 : 1 ≤ n) (h2 : n ≤ 2048) {v : Value} {f : FrV} (hv : FrAt S w n v f) : FrsAt S w (D.put (keyL n) (.held v)) (setFr F n f) := by
  refine ⟨fun q hq e => ?_, fun q g hq e => ?_, fun l hl => ?_⟩
  · unfold setFr at e
    split at e
    · cases e
    · rename_i hne
      rw [Maps.has_put_other (keyL_ne hne)]
      exact h.no q hq e
  · unfold setFr at e
    split at e
    · rename_i heq
      subst heq
      cases e
      refine ⟨Maps.has_put_same hI (keyL_lit q) _, ?_⟩
      rw [getV_put_same hI (keyL_lit q)]
      exact hv
    · rename_i hne
      rw [Maps.has_put_other (keyL_ne hne), getV_put_other (keyL_ne hne)]
      exact h.yes q g hq e
  · by_cases e : l = keyL n
    · exact ⟨n, h1, h2, e⟩
    · rw [Maps.has_put_other e] at hl
      exact h.keys l hl

theorem PoolAt.turn {w w' : World} {p fb : Nat} {pv : Value} {D D' : DataW Value} {S S' : Nat → Prop} {P : PG} (h : PoolAt w p fb pv D S P) (k : ∀ b, S b → b ≠ fb → w'.heap[b]? = w.heap[b]?) (hs : w.heap.size ≤ w'.heap.size) (hS : ∀ b, S b → S' b) (hlt : ∀ b, S' b → b < w'.heap.size) {z' : Nat} {F' : Nat → Option FrV}
    (hM : MapV 49 w' fb z' D') (hF : FrsAt S' w' D' F') : PoolAt w' p fb pv D' S' { P with F := F', z := z' } :=
  ⟨h.blk.same (k p h.sp (Ne.symm h.pf)), hM, hF, h.picks.turn h.sv h.map.isMap k hs, hS p h.sp, hS fb h.sf, fun b e => hS b (h.sv b e), h.sq, hlt⟩

theorem PoolAt.cell {w : World} {p fb : Nat} {pv : Value} {D : DataW Value} {S : Nat → Prop} {P P' : PG} (h : PoolAt w p fb pv D S P) (i : Nat) (v : Value) (e : (pvals fb pv P).setIfInBounds i v = pvals fb pv P') (e1 : P'.F = P.F) (e2 : P'.z = P.z) (e3 : P'.picks = P.picks) : PoolAt (w.setCell ⟨p, i, none⟩ v) p fb pv D S P' := by
  have k : ∀ b, b ≠ p → (w.setCell ⟨p, i, none⟩ v).heap[b]? = w.heap[b]? := fun b hb => Below.heap_setCell _ _ _ _ hb
  refine ⟨?_, ?_, ?_, ?_, h.sp, h.sf, h.sv, h.sq, fun b hb => by simpa using h.lt b hb⟩
  · have := h.blk.set i v
    rw [e] at this
    exact this
  · rw [e2]; exact h.map.same (k fb h.pf)
  · rw [e1]
    refine ⟨h.frs.no, fun n f hn hf => ⟨(h.frs.yes n f hn hf).1, ?_⟩, h.frs.keys⟩
    obtain ⟨⟨a, c, ev, hm⟩, g2, g3, g4⟩ := (h.frs.yes n f hn hf).2
    refine ⟨⟨a, c, ev, ?_⟩, g2, g3, g4⟩
    rcases hm with hm | ⟨b, o, e, g5, hb, hc⟩
    · exact .inl hm
    · refine .inr ⟨b, o, e, g5, by simpa using hb, fun j hj => ?_⟩
      by_cases hbp : b = p
      · subst hbp
        have h1 := hc j hj
        rw [h.blk.cell] at h1
        have hlt : o + j < 7 := by
          have := (Array.getElem?_eq_some_iff.1 h1).1
          simpa [pvals] using this
        exfalso
        obtain ⟨ap, cp, epv, _⟩ := h.picks
        rw [epv] at h1
        have : o + j = 0 ∨ o + j = 1 ∨ o + j = 2 ∨ o + j = 3 ∨ o + j = 4 ∨ o + j = 5 ∨ o + j = 6 := by omega
        rcases this with x | x | x | x | x | x | x <;> rw [x] at h1 <;> simp [pvals] at h1
      · exact (World.cell?_of_block (w := w) (a := ⟨b, o + j, none⟩) (k b hbp)).trans (hc j hj)
  · rw [e3]
    obtain ⟨a, c, ev, h1, h2, h3⟩ := h.picks
    refine ⟨a, c, ev, h1, h2, ?_⟩
    rcases h3 with hm | ⟨b, o, e, hb, hc⟩
    · exact .inl hm
    · have hbp : b ≠ p := h.sq b (by rw [ev, e]; rfl)
      exact .inr ⟨b, o, e, by simpa using hb, fun j hj => (World.cell?_of_block (w := w) (a := ⟨b, o + j, none⟩) (k b hbp)).trans (hc j hj)⟩

end Go.Proofs.YtgkfdakieebnmaaGreat

namespace Go.Proofs.YtgkfdakieebnmaaGreat
open Go.RowKit Go.Sort

def RoomTo (p : Nat) (P : PG) (l : LG) (d : DG) (P1 : PG) (l1 : LG) (d1 : DG) : Prop :=
  ∀ W A, Sys W p A P l d → Calls Tryz.prog 46 #[.pointer (some ⟨p, 0, none⟩)] W fun e w' => e = .returned (.int .i64 0) ∧ ∃ A', Sys w' p A' P1 l1 d1 ∧ Moves A A' W w'

theorem Sys.drewN {w : World} {p : Nat} {A : Nat → Prop} {P : PG} {l : LG} {d : DG} (h : Sys w p A P l d) (n : Nat) : Sys (w.drewN n) p A P l d := h.same (fun _ _ => rfl) (Nat.le_refl _)

set_option maxHeartbeats 1600000 in
set_option maxRecDepth 60000 in
theorem room_roomy {p : Nat} {P : PG} {l : LG} {d : DG} (h1 : P.z < P.most) (h2 : P.most ≤ 1000000) : RoomTo p P l d P l d := by
  intro W A hS
  have HS := hid hS
  obtain ⟨⟨S, L, D, ⟨fb, pv, M, hP⟩, _⟩, _, _⟩ := hS
  have c2 := hP.cells.c2
  have c3 := hP.cells.c3
  have hlen' : ∀ ty, (Builtin.len_ #[101] ty #[.map (some fb)]).run Tryz.prog W.drew = .ok (.int .i64 P.z) W.drew := fun ty => by
    have := (hP.map.same (w' := W.drew) rfl).1.len (t := 101) (e := 121) Tryz.underlying101 ty
    rw [hP.map.2] at this
    exact this
  have h1' : (P.z : Int) < P.most := by omega
  clear hP
  go_enter Tryz.func46, Tryz.ntmps46
  go_wp2_with fail
  go_region
  go_wp2
  go_ret
  exact ⟨rfl, A, HS.out.drewN 1, Moves.of_kept ((Kept.refl _ _).drewN _)⟩

end Go.Proofs.YtgkfdakieebnmaaGreat

namespace Go.Proofs.YtgkfdakieebnmaaGreat
open Go.RowKit Go.Sort

def sinceF (old lsn : Nat) : Nat := if old = 0 then max lsn 1 else old

def oldS (P : PG) (n : Nat) : Nat := match P.F n with | some f => f.since | none => 0

def putP (P : PG) (X : SheetV) : PG := { P with F := setFr P.F X.num ⟨X, sinceF (oldS P X.num) X.lsn⟩, z := if (P.F X.num).isSome = true then P.z else P.z + 1 }

def frArr (f : FrV) (a : Option Addr) (c : Nat) : Array Value := #[.int .u32 f.sh.num, .int .u64 f.sh.lsn, .int .i64 f.sh.kind, .string f.sh.head, .slice a f.sh.slots.length c, .int .u64 f.since]

theorem frameZero (w : World) : (zeroValue 121).run Tryz.prog w = .ok zeroF w := Tryz.zeroValue121 w

theorem PoolAt.look {w : World} {p fb : Nat} {pv : Value} {M : DataW Value} {S : Nat → Prop} {P : PG} (h : PoolAt w p fb pv M S P) {n : Nat} (hn : n < 4294967296) :
    (P.F n = none → (Instr.lookup 101 (.map (some fb)) (.int .u32 n) true).run Tryz.prog w = .ok (.tuple #[zeroF, .bool false]) w) ∧
    (∀ f, P.F n = some f → ∃ a c, StrsIn S w a f.sh.slots ∧ (Instr.lookup 101 (.map (some fb)) (.int .u32 n) true).run Tryz.prog w = .ok (.tuple #[.agg (frArr f a c), .bool true]) w) := by
  have hl := h.map.lookOk pageKeyed Tryz.underlying101 (frameZero w) (keyL_key hn)
  refine ⟨fun e => ?_, fun f e => ?_⟩
  · have h1 := h.frs.no n hn e
    rw [h1, getV_none h1] at hl
    exact hl
  · obtain ⟨h1, ⟨a, c, ev, hm⟩, _⟩ := h.frs.yes n f hn e
    rw [h1, ev] at hl
    exact ⟨a, c, hm, hl⟩

structure PuAt (w W : World) (p : Nat) (A0 A : Nat → Prop) (P : PG) (l : LG) (d : DG) (X : SheetV) (a : Option Addr) (c q : Nat) (fc : Array Value) : Prop where
  sys : Sys W p A P l d
  x : Blk W w.heap.size (X.arr a c) 52
  f : Blk W q fc 121
  l1 : w.heap.size < q
  l2 : q < W.heap.size
  nx : ¬ A w.heap.size
  nq : ¬ A q
  mv : Moves A0 A w W

theorem Moves.late {S S' T : Nat → Prop} {u v w : World} (h : Moves S S' u v) (k : Kept T v w) (ht : ∀ b, T b → u.heap.size ≤ b) : Moves S S' u w :=
  ⟨⟨k.os.trans h.1.os, k.tape.trans h.1.tape, k.output.trans h.1.output, Nat.le_trans h.1.size k.size, fun i hi hs => (k.block i (Nat.lt_of_lt_of_le hi h.1.size) fun x => by have := ht i x; omega).trans (h.1.block i hi hs)⟩, h.2⟩

theorem StrsIn.moved {A A' : Nat → Prop} {W W' : World} {a : Option Addr} {L : List ByteArray} (h : StrsIn (fun b => ¬ A b) W a L) (hm : Moves A A' W W') : StrsIn (fun b => ¬ A' b) W' a L := by
  rcases h with e | ⟨b, o, e, g1, g2, g3⟩
  · exact .inl e
  · have k3 := hm.off g2 g1
    exact .inr ⟨b, o, e, k3.2, Nat.lt_of_lt_of_le g2 hm.1.size, fun i hi => (World.cell?_of_block (w := W) (a := ⟨b, o + i, none⟩) k3.1).trans (g3 i hi)⟩

theorem PuAt.moved {w W W' : World} {p : Nat} {A0 A A' : Nat → Prop} {P P' : PG} {l l' : LG} {d d' : DG} {X : SheetV} {a : Option Addr} {c q : Nat} {fc : Array Value} (h : PuAt w W p A0 A P l d X a c q fc) (hs : Sys W' p A' P' l' d') (hm : Moves A A' W W') : PuAt w W' p A0 A' P' l' d' X a c q fc := by
  have h1 := h.l1
  have h2 := h.l2
  have k1 := hm.off (r := w.heap.size) (by omega) h.nx
  have k2 := hm.off (r := q) (by omega) h.nq
  exact ⟨hs, h.x.same k1.1, h.f.same k2.1, h1, Nat.lt_of_lt_of_le h2 hm.1.size, k1.2, k2.2, h.mv.trans hm⟩

theorem PuAt.below {w W W' : World} {p : Nat} {A0 A : Nat → Prop} {P : PG} {l : LG} {d : DG} {X : SheetV} {a : Option Addr} {c q : Nat} {fc : Array Value} (h : PuAt w W p A0 A P l d X a c q fc) (hb : Below W.heap.size W W') : PuAt w W' p A0 A P l d X a c q fc :=
  h.moved (h.sys.below hb) (Moves.of_kept (Kept.of_below hb))

theorem PuAt.setF {w W : World} {p : Nat} {A0 A : Nat → Prop} {P : PG} {l : LG} {d : DG} {X : SheetV} {a : Option Addr} {c q : Nat} {fc : Array Value} (h : PuAt w W p A0 A P l d X a c q fc) (i : Nat) (v : Value) : PuAt w (W.setCell ⟨q, i, none⟩ v) p A0 A P l d X a c q (fc.setIfInBounds i v) := by
  have h1 := h.l1
  have h2 := h.l2
  have k : ∀ b, b ≠ q → (W.setCell ⟨q, i, none⟩ v).heap[b]? = W.heap[b]? := fun b hb => Below.heap_setCell _ _ _ _ hb
  exact ⟨h.sys.same (fun b hb => k b fun e => h.nq (e ▸ hb)) (by simp), h.x.same (k _ (by omega)), h.f.set i v, h1, by simpa using h2, h.nx, h.nq, h.mv.late (Kept.setCell (fun k => k = q) W q i v rfl) fun k e => by omega⟩

structure PuC (w W : World) (X : SheetV) (a : Option Addr) (c q : Nat) (f : FrV) (ga : Option Addr) (gc : Nat) : Prop where
  x0 : W.cell? ⟨w.heap.size, 0, none⟩ = some (.int .u32 X.num)
  x1 : W.cell? ⟨w.heap.size, 1, none⟩ = some (.int .u64 X.lsn)
  x2 : W.cell? ⟨w.heap.size, 2, none⟩ = some (.int .i64 X.kind)
  x3 : W.cell? ⟨w.heap.size, 3, none⟩ = some (.string X.head)
  x4 : W.cell? ⟨w.heap.size, 4, none⟩ = some (.slice a X.slots.length c)
  y0 : W.cell? ⟨q, 0, none⟩ = some (.int .u32 f.sh.num)
  y1 : W.cell? ⟨q, 1, none⟩ = some (.int .u64 f.sh.lsn)
  y2 : W.cell? ⟨q, 2, none⟩ = some (.int .i64 f.sh.kind)
  y3 : W.cell? ⟨q, 3, none⟩ = some (.string f.sh.head)
  y4 : W.cell? ⟨q, 4, none⟩ = some (.slice ga f.sh.slots.length gc)
  y5 : W.cell? ⟨q, 5, none⟩ = some (.int .u64 f.since)
  f0 : W.frozen? ⟨q, 0, none⟩ = false
  f1 : W.frozen? ⟨q, 1, none⟩ = false
  f2 : W.frozen? ⟨q, 2, none⟩ = false
  f3 : W.frozen? ⟨q, 3, none⟩ = false
  f4 : W.frozen? ⟨q, 4, none⟩ = false
  f5 : W.frozen? ⟨q, 5, none⟩ = false

theorem PuAt.cells {w W : World} {p : Nat} {A0 A : Nat → Prop} {P : PG} {l : LG} {d : DG} {X : SheetV} {a : Option Addr} {c q : Nat} {f : FrV} {ga : Option Addr} {gc : Nat} (h : PuAt w W p A0 A P l d X a c q (frArr f ga gc)) : PuC w W X a c q f ga gc :=
  ⟨h.x.cell 0, h.x.cell 1, h.x.cell 2, h.x.cell 3, h.x.cell 4, h.f.cell 0, h.f.cell 1, h.f.cell 2, h.f.cell 3, h.f.cell 4, h.f.cell 5, h.f.frozen 0, h.f.frozen 1, h.f.frozen 2, h.f.frozen 3, h.f.frozen 4, h.f.frozen 5⟩

theorem PuAt.copied {w W : World} {p : Nat} {A0 A : Nat → Prop} {P : PG} {l : LG} {d : DG} {X : SheetV} {a : Option Addr} {c q : Nat} {f : FrV} {ga : Option Addr} {gc : Nat} (h : PuAt w W p A0 A P l d X a c q (frArr f ga gc)) (b k : Nat) :
    PuAt w (store5 W q (.int .u32 X.num) (.int .u64 X.lsn) (.int .i64 X.kind) (.string X.head) (.slice (some ⟨b, 0, none⟩) X.slots.length k)) p A0 A P l d X a c q (frArr ⟨X, f.since⟩ (some ⟨b, 0, none⟩) k) :=
  ((((h.setF 0 _).setF 1 _).setF 2 _).setF 3 _).setF 4 _

theorem PuAt.sinced {w W : World} {p : Nat} {A0 A : Nat → Prop} {P : PG} {l : LG} {d : DG} {X : SheetV} {a : Option Addr} {c q : Nat} {f : FrV} {ga : Option Addr} {gc : Nat} (h : PuAt w W p A0 A P l d X a c q (frArr f ga gc)) (n : Nat) :
    PuAt w (W.setCell ⟨q, 5, none⟩ (.int .u64 n)) p A0 A P l d X a c q (frArr ⟨f.sh, n⟩ ga gc) := h.setF 5 _

theorem PuAt.done {w W : World} {p : Nat} {A0 A : Nat → Prop} {P : PG} {l : LG} {d : DG} {X : SheetV} {a : Option Addr} {c q : Nat} {fc : Array Value} (h : PuAt w W p A0 A P l d X a c q fc) {b k : Nat} (hb : w.heap.size ≤ b) (hnA : ¬ A b) (hS : StrsFrom w.heap.size W (some ⟨b, 0, none⟩) X.slots) (hbl : b < W.heap.size) (hF : X.Fits) (h1 : 1 ≤ X.num) (h2 : X.num ≤ 2048) (hz : P.z ≤ 1000000) (sn : Nat) (hsn : sn < 18446744073709551616) :
    ∃ (fb : Nat) (u : World → World), W.cell? ⟨p, 3, none⟩ = some (.map (some fb)) ∧ (Instr.mapUpdate 101 (.map (some fb)) (.int .u32 X.num) (.agg (frArr ⟨X, sn⟩ (some ⟨b, 0, none⟩) k))).run Tryz.prog W.drew = .ok () (u W.drew) ∧
      ∃ A', Sys (u W.drew) p A' { P with F := setFr P.F X.num ⟨X, sn⟩, z := if (P.F X.num).isSome = true then P.z else P.z + 1 } l d ∧ Moves A0 A' w (u W.drew) := by
  obtain ⟨⟨S, L, D, ⟨fb, pv, M, hP⟩, hL, hD, g4, g5, g6, g7⟩, g8, g9⟩ := h.sys
  obtain ⟨u, hu⟩ := put_ex 49 101 121 fb (.int .u32 X.num) (.agg (frArr ⟨X, sn⟩ (some ⟨b, 0, none⟩) k))
  obtain ⟨hrun, hM, ht⟩ := hu W.drew P.z M (keyL X.num) (hP.map.same rfl) pageKeyed Tryz.underlying101 hz (keyL_key (by omega))
  have hk : Kept (fun k => k = fb) W.drew (u W.drew) := mapTurned_kept ht rfl
  have hkb : ∀ k, k < W.heap.size → k ≠ fb → (u W.drew).heap[k]? = W.heap[k]? := fun k hk' hne => hk.block k hk' hne
  have hsz : W.heap.size ≤ (u W.drew).heap.size := hk.size
  have hI : Maps.IsMap M := (hP.map.tidy pageKeyed).isMap
  have hzz : Maps.size (M.put (keyL X.num) (.held (.agg (frArr ⟨X, sn⟩ (some ⟨b, 0, none⟩) k)))) = if (P.F X.num).isSome = true then P.z else P.z + 1 := by
    rw [Maps.size_put (hP.map.tidy pageKeyed), hP.map.2]
    cases e : P.F X.num with
    | none => rw [hP.frs.no _ (by omega) e]; rfl
    | some f => rw [(hP.frs.yes _ f (by omega) e).1]; rfl
  rw [hzz] at hM
  have hbm : ∀ (i : Nat) (hi : i < X.slots.length), b ≠ fb := fun i hi => by
    rcases hS with e | ⟨b', o', e, _, _, hc⟩
    · rw [e] at hi; simp at hi
    · cases e; exact cell_noMap (hc i hi) hP.map.isMap
  have hfr : FrAt (fun k => S k ∨ k = b) (u W.drew) X.num (.agg (frArr ⟨X, sn⟩ (some ⟨b, 0, none⟩) k)) ⟨X, sn⟩ := by
    refine ⟨⟨_, _, rfl, ?_⟩, hF, rfl, hsn⟩
    rcases hS with e | ⟨b', o', e, _, _, hc⟩
    · exact .inl e
    · cases e
      exact .inr ⟨b, 0, rfl, .inr rfl, Nat.lt_of_lt_of_le hbl hsz, fun i hi => (World.cell?_of_block (w := W) (a := ⟨b, 0 + i, none⟩) (hkb b hbl (hbm i hi))).trans (hc i hi)⟩
  have hF1 : FrsAt (fun k => S k ∨ k = b) (u W.drew) M P.F := hP.frs.turn hP.map.isMap (fun k hk' hne => hkb k (hP.lt k hk') hne) hsz fun k x => .inl x
  have hP' := hP.turn (S' := fun k => S k ∨ k = b) (fun k hk' hne => hkb k (hP.lt k hk') hne) hsz (fun k x => .inl x) (by rintro k (x | rfl); exact Nat.lt_of_lt_of_le (hP.lt k x) hsz; exact Nat.lt_of_lt_of_le hbl hsz) hM (hF1.put hI h1 h2 hfr)
  have nfL : ∀ k, L k → k ≠ fb := fun k hk' e => g4 fb hP.sf (e ▸ hk')
  have nfD : ∀ k, D k → k ≠ fb := fun k hk' e => g5 fb hP.sf (e ▸ hk')
  refine ⟨fb, u, hP.cells.c3, hrun, fun k => A k ∨ k = b, ⟨⟨fun k => S k ∨ k = b, L, D, ⟨fb, pv, _, hP'⟩, hL.same (fun k hk' => hkb k (hL.lt hk') (nfL k hk')) hsz, hD.same (fun k hk' => hkb k (hD.lt hk') (nfD k hk')) hsz, ?_, ?_, g6, ?_⟩, g8, ?_⟩, ?_⟩
  · rintro k (x | rfl) y
    · exact g4 k x y
    · exact hnA (g7 k (.inr (.inl y)))
  · rintro k (x | rfl) y
    · exact g5 k x y
    · exact hnA (g7 k (.inr (.inr y)))
  · rintro k ((x | rfl) | x)
    · exact .inl (g7 k (.inl x))
    · exact .inr rfl
    · exact .inl (g7 k (.inr x))
  · rintro k (x | rfl)
    · exact Nat.lt_of_lt_of_le (g9 k x) hsz
    · exact Nat.lt_of_lt_of_le hbl hsz
  · have hmv := h.mv
    refine ⟨⟨hk.os.trans hmv.1.os, hk.tape.trans hmv.1.tape, hk.output.trans hmv.1.output, Nat.le_trans hmv.1.size hsz, fun i hi hs => ?_⟩, ?_⟩
    · have k1 := hmv.off hi hs
      exact (hkb i (Nat.lt_of_lt_of_le hi hmv.1.size) fun e => k1.2 (e ▸ g7 fb (.inl hP.sf))).trans k1.1
    · rintro k (x | rfl)
      · exact hmv.2 k x
      · exact .inr hb

theorem PoolAt.looks {w : World} {p fb : Nat} {pv : Value} {M : DataW Value} {S : Nat → Prop} {P : PG} (h : PoolAt w p fb pv M S P) {n : Nat} (hn : n < 4294967296) :
    ∃ (g : FrV) (ga : Option Addr) (gc : Nat), (∀ w', Below w.heap.size w w' → (Instr.lookup 101 (.map (some fb)) (.int .u32 n) true).run Tryz.prog w' = .ok (.tuple #[.agg #[.int .u32 g.sh.num, .int .u64 g.sh.lsn, .int .i64 g.sh.kind, .string g.sh.head, .slice ga g.sh.slots.length gc, .int .u64 g.since], .bool (P.F n).isSome]) w') ∧
      g.since = oldS P n ∧ g.since < 18446744073709551616 ∧ (∀ f, P.F n = some f → g = f ∧ StrsIn S w ga f.sh.slots) := by
  cases e : P.F n with
  | none => exact ⟨⟨sheet0, 0⟩, none, 0, fun w' hb => ((h.below hb).look hn).1 e, by simp only [oldS, e], by show (0 : Nat) < _; omega, fun f hf => by cases hf⟩
  | some f =>
    obtain ⟨h1, ⟨a, c, ev, hm⟩, _, _, h5⟩ := h.frs.yes n f hn e
    refine ⟨f, a, c, fun w' hb => ?_, by simp only [oldS, e], h5, fun g hg => by cases hg; exact ⟨rfl, hm⟩⟩
    have hl' := (h.below hb).map.lookOk pageKeyed Tryz.underlying101 (frameZero w') (keyL_key hn)
    rw [h1, ev] at hl'
    exact hl'

set_option maxHeartbeats 3200000 in
set_option maxRecDepth 8000 in
theorem poolPut_any {w : World} {p : Nat} {A : Nat → Prop} {P P1 : PG} {l l1 : LG} {d d1 : DG} (hS : Sys w p A P l d) (X : SheetV) (a : Option Addr) (c : Nat) (hX : X.Ok w a) (hoff : ∀ b o, a = some ⟨b, o, none⟩ → ¬ A b) (h1 : 1 ≤ X.num) (h2 : X.num ≤ 2048) (hE : encE X = 0)
    (hR : P.F X.num = none → RoomTo p P l d P1 l1 d1 ∧ P1.F X.num = none) (hR' : P.F X.num ≠ none → P1 = P ∧ l1 = l ∧ d1 = d) (hz : P1.z ≤ 1000000) :
    Calls Tryz.prog 18 #[.pointer (some ⟨p, 0, none⟩), X.val a c] w fun e w' => e = .returned (.int .i64 0) ∧ ∃ A', Sys w' p A' (putP P1 X) l1 d1 ∧ Moves A A' w w' := by
  have hFit : X.Fits := (encE_fits hX).1 hE
  have HEN : Hid (∀ W, Below w.heap.size w W → Calls Tryz.prog 49 #[X.val a c] W fun e w' => e = .returned (.tuple #[.string (encS X), .int .i64 0]) ∧ Below W.heap.size W w') := fun W hb => by
    have := encode_any X a c W (hX.below hb)
    rw [hE] at this
    exact this
  have HMB : Hid (∀ W, Calls Tryz.prog 43 #[.int .u32 X.num] W fun x w' => x = .returned (.bool true) ∧ w' = W) := fun W => by
    have := pmayBe_any X.num W (by omega)
    rw [decide_eq_true (by omega)] at this
    exact this
  have HV : Hid (X.val a c = .agg #[.int .u32 X.num, .int .u64 X.lsn, .int .i64 X.kind, .string X.head, .slice a X.slots.length c]) := rfl
  generalize encS X = ES at *
  obtain ⟨W0, HW0⟩ : ∃ W0, Hid (W0 = w.alloc (.cells #[.int .u32 X.num, .int .u64 X.lsn, .int .i64 X.kind, .string X.head, .slice a X.slots.length c] 52)) := ⟨_, rfl⟩
  have b0 : Below w.heap.size w W0 := by rw [HW0.out]; exact (Below.refl _ _).alloc (Nat.le_refl _) _
  have kx : Blk W0 w.heap.size (X.arr a c) 52 := by rw [HW0.out]; exact Blk.made w _ _
  have x0 : W0.cell? ⟨w.heap.size, 0, none⟩ = some (.int .u32 X.num) := kx.cell 0
  have x1 : W0.cell? ⟨w.heap.size, 1, none⟩ = some (.int .u64 X.lsn) := kx.cell 1
  have x2 : W0.cell? ⟨w.heap.size, 2, none⟩ = some (.int .i64 X.kind) := kx.cell 2
  have x3 : W0.cell? ⟨w.heap.size, 3, none⟩ = some (.string X.head) := kx.cell 3
  have x4 : W0.cell? ⟨w.heap.size, 4, none⟩ = some (.slice a X.slots.length c) := kx.cell 4
  rw [HV.out] at HEN ⊢
  go_enter Tryz.func18, Tryz.ntmps18
  go_wp2_with fail
  rw [← HW0.out]
  refine (HMB.out _).mono ?_
  rintro x w1 ⟨rfl, rfl⟩
  go_wp2_with fail
  refine (HEN.out _ b0).mono ?_
  rintro x w1 ⟨rfl, b1⟩
  have kx1 := kx.same (b1.block _ kx.lt)
  have hS1 := (hS.below b0).below b1
  have bel1 := below_chain b0 b1
  have z1 : w.heap.size < w1.heap.size := Nat.lt_of_lt_of_le kx.lt b1.size
  clear x0 x1 x2 x3 x4 kx b0 b1 HW0 HEN HMB
  obtain ⟨⟨S, L, DD, ⟨fb, pv, M, hP⟩, hRR⟩, hld, hlt⟩ := id hS1
  obtain ⟨g, ga, gc, hlook, hold, hg64, hyes⟩ := hP.looks (n := X.num) (by omega)
  have x0 : w1.cell? ⟨w.heap.size, 0, none⟩ = some (.int .u32 X.num) := kx1.cell 0
  have c3 := hP.cells.c3
  have hpl : p < w1.heap.size := hP.lt p hP.sp
  have k1 := hlook w1.drew (Below.refl _ _).drew
  have k2 := hlook (w1.alloc (.cells #[.int .u32 0, .int .u64 0, .int .i64 0, .string ⟨#[]⟩, .slice none 0 0, .int .u64 0] 121)).drew ((Below.refl _ _).alloc (Nat.le_refl _) _).drew
  have HYS := hid hyes
  clear hlook hyes
  have HHE : Hid ((P.F X.num).isSome = true ∨ (P.F X.num).isSome = false) := by show _ ∨ _; cases (P.F X.num).isSome <;> simp
  obtain ⟨here, hhere⟩ : ∃ here, here = (P.F X.num).isSome := ⟨_, rfl⟩
  rw [← hhere] at k1 k2
  have HH := hid hhere
  clear hhere HHE
  have HOLD := hid hold
  have H64 := hid hg64
  clear hold hg64
  have nA1 : ∀ k, w.heap.size ≤ k → ¬ A k := fun k hk hA => by have := hS.lt k hA; omega
  have hxs : StrsIn (fun b => ¬ A b) w1 a X.slots := by
    rcases hX.mem with e | ⟨b, o, e, g2, g3⟩
    · exact .inl e
    · exact .inr ⟨b, o, e, hoff b o e, Nat.lt_of_lt_of_le g2 bel1.size, fun i hi => (bel1.cell (p := ⟨b, o + i, none⟩) g2).trans (g3 i hi)⟩
  go_upto_region 6 with fail
  go_cut [7, 8] from 26 to 35 (fun np hv wx => np = .pointer (some ⟨w1.heap.size, 0, none⟩) ∧ hv = .bool here ∧ Hid (Blk wx w1.heap.size (frArr g ga gc) 121 ∧ Below w1.heap.size w1 wx))
  case first =>
    go_region
    all_goals
      go_wp2_with fail
      go_meet
      case rel => exact ⟨rfl, rfl, ⟨Blk.made w1 _ _, ((Below.refl _ _).alloc (Nat.le_refl _) _).drew⟩⟩
  case rest =>
    obtain ⟨rfl, rfl, HB⟩ := hcut
    have HP : PuAt w wc p A A P l d X a c w1.heap.size (frArr g ga gc) := ⟨hS1.below HB.out.2, kx1.same (HB.out.2.block _ z1), HB.out.1, z1, HB.out.1.lt, nA1 _ (Nat.le_refl _), nA1 _ (by omega), Moves.of_kept (Kept.of_below (below_chain bel1 HB.out.2))⟩
    have HBB := HB.out.2
    clear HB
    have HC : Hid (∀ (W : World), StrsAt W a X.slots → Calls Tryz.prog 44 #[X.val a c] W fun e w' => ∃ b, e = .returned (X.val (some ⟨b, 0, none⟩) X.slots.length) ∧ W.heap.size < b ∧ b < w'.heap.size ∧ RowV w' b X.slots.length (fun j => .string (X.slots.getD j ByteArray.empty)) ∧ Below W.heap.size W w') := fun W hm => pcopyOf_any X a c W (hFit.ok hm)
    rw [HV.out] at HC
    have HXS : Hid (StrsIn (fun b => ¬ A b) wc a X.slots) := hxs.moved (Moves.of_kept (Kept.of_below HBB))
    have HPP := hid HP
    have HR0 : Hid ((P.F X.num).isSome = false → RoomTo p P l d P1 l1 d1 ∧ P1.F X.num = none) := fun e => hR (by simpa using e)
    have HR1 : Hid ((P.F X.num).isSome = true → P1 = P ∧ l1 = l ∧ d1 = d) := fun e => hR' (by intro h; rw [h] at e; cases e)
    generalize hq : w1.heap.size = q at *
    clear hxs HP kx1 hS1 bel1 z1 hP hR hRR hlt hpl c3 x0 k1 k2 hR' HYS hld hX hoff hS hq
    go_upto_if 37 with fail
    go_cut [] from 37 to 42 (fun wx => Hid (∃ A1, PuAt w wx p A A1 P1 l1 d1 X a c q (frArr g ga gc) ∧ StrsIn (fun b => ¬ A1 b) wx a X.slots))
    case first =>
      cases here
      · obtain ⟨hroom, _⟩ := HR0.out HH.out.symm
        go_wp2_with fail
        refine (hroom wc A HPP.out.sys).mono ?_
        rintro e w2 ⟨rfl, h2⟩
        have H2 := hid h2
        clear h2
        go_wp2_with fail
        go_meet
        case rel =>
          obtain ⟨A1, hs2, hm2⟩ := H2.out
          exact ⟨A1, HPP.out.moved hs2 hm2, HXS.out.moved hm2⟩
      · obtain ⟨rfl, rfl, rfl⟩ := HR1.out HH.out.symm
        go_wp2_with fail
        go_meet
        case rel => exact ⟨A, HPP.out, HXS.out⟩
    case rest =>
      rename_i wd
      obtain ⟨A1, H1, hx1⟩ := hcut.out
      clear hcut HPP HXS
      obtain ⟨x0, x1, x2, x3, x4, y0, y1, y2, y3, y4, y5, f0, f1, f2, f3, f4, f5⟩ := H1.cells
      have hmvs := H1.mv.1.size
      have hq1 := H1.l1
      go_wp2_with fail
      refine (HC.out _ hx1.at).mono ?_
      rintro e w4 ⟨b, rfl, hb1, hb2, hrow, b4⟩
      have H4 := H1.below b4
      have hnb : ¬ A1 b := fun hA => by have := H1.sys.lt b hA; omega
      have hst : ∀ j (hj : j < X.slots.length), w4.cell? ⟨b, 0 + j, none⟩ = some (.string X.slots[j]) := fun j hj => by
        rw [Nat.zero_add, (hrow j hj).1]
        show some (Value.string (X.slots.getD j ByteArray.empty)) = _
        rw [List.getD_eq_getElem?_getD, List.getElem?_eq_getElem hj]
        rfl
      have HXV2 : Hid (X.val (some ⟨b, 0, none⟩) X.slots.length = .agg #[.int .u32 X.num, .int .u64 X.lsn, .int .i64 X.kind, .string X.head, .slice (some ⟨b, 0, none⟩) X.slots.length X.slots.length]) := rfl
      rw [HXV2.out]
      clear x0 x1 x2 x3 x4 y0 y1 y2 y3 y4 y5 f0 f1 f2 f3 f4 f5 hrow
      have hqb : q ≠ b := by have := H1.l2; omega
      have hql := H4.l2
      clear H1 hx1 b4
      obtain ⟨x0, x1, x2, x3, x4, y0, y1, y2, y3, y4, y5, f0, f1, f2, f3, f4, f5⟩ := H4.cells
      obtain ⟨W5, HW5⟩ : ∃ W5, Hid (W5 = store5 w4 q (.int .u32 X.num) (.int .u64 X.lsn) (.int .i64 X.kind) (.string X.head) (.slice (some ⟨b, 0, none⟩) X.slots.length X.slots.length)) := ⟨_, rfl⟩
      have H5 : PuAt w W5 p A A1 P1 l1 d1 X a c q (frArr ⟨X, g.since⟩ (some ⟨b, 0, none⟩) X.slots.length) := by rw [HW5.out]; exact H4.copied b _
      have hst5 : StrsFrom w.heap.size W5 (some ⟨b, 0, none⟩) X.slots := by
        rw [HW5.out]
        exact .inr ⟨b, 0, rfl, by omega, by rw [store5_size]; exact hb2, fun j hj => (World.cell?_of_block (w := w4) (a := ⟨b, 0 + j, none⟩) (store5_other _ _ _ _ _ _ _ _ (Ne.symm hqb))).trans (hst j hj)⟩
      have HPT : Hid (∀ SN, SN = sinceF g.since X.lsn → putP P1 X = { P1 with F := setFr P1.F X.num ⟨X, SN⟩, z := if (P1.F X.num).isSome = true then P1.z else P1.z + 1 }) := fun SN e => by
        have ho : oldS P1 X.num = g.since := by
          cases here with
          | false =>
            have h3 := (HR0.out HH.out.symm).2
            have h4 := HOLD.out
            have h5 := HH.out
            unfold oldS at h4 ⊢
            rw [h3]
            cases e6 : P.F X.num with
            | none => rw [e6] at h4; exact h4.symm
            | some f => rw [e6] at h5; cases h5
          | true =>
            obtain ⟨rfl, _, _⟩ := HR1.out HH.out.symm
            exact HOLD.out.symm
        unfold putP
        rw [ho, ← e]
      have hb5 : b < W5.heap.size := by rw [HW5.out, store5_size]; exact hb2
      by_cases hsn : g.since = 0
      · have hsi : (g.since : Int) = 0 := by omega
        have hmx : max (X.lsn : Int) 1 = ((max X.lsn 1 : Nat) : Int) := by omega
        go_upto_region 14 with fail
        rw [show (((((w4.setCell ⟨q, 0, none⟩ (.int .u32 X.num)).setCell ⟨q, 1, none⟩ (.int .u64 X.lsn)).setCell ⟨q, 2, none⟩ (.int .i64 X.kind)).setCell ⟨q, 3, none⟩ (.string X.head)).setCell ⟨q, 4, none⟩ (.slice (some ⟨b, 0, none⟩) X.slots.length X.slots.length)) = W5 from HW5.out.symm]
        obtain ⟨SN, hSNe⟩ : ∃ SN, SN = max X.lsn 1 := ⟨_, rfl⟩
        have hput : putP P1 X = { P1 with F := setFr P1.F X.num ⟨X, SN⟩, z := if (P1.F X.num).isSome = true then P1.z else P1.z + 1 } := HPT.out _ (by unfold sinceF; rw [if_pos hsn, hSNe])
        have hSN : SN < 18446744073709551616 := by have := hFit.lsn; omega
        rw [← hSNe]
        obtain ⟨W6, HW6⟩ : ∃ W6, Hid (W6 = W5.setCell ⟨q, 5, none⟩ (.int .u64 SN)) := ⟨_, rfl⟩
        have H6 : PuAt w W6 p A A1 P1 l1 d1 X a c q (frArr ⟨X, SN⟩ (some ⟨b, 0, none⟩) X.slots.length) := by rw [HW6.out]; exact H5.sinced SN
        have hst6 : StrsFrom w.heap.size W6 (some ⟨b, 0, none⟩) X.slots := by
          rw [HW6.out]
          rcases hst5 with e | ⟨b', o', e, g1, g2, g3⟩
          · exact .inl e
          · cases e
            exact .inr ⟨b, 0, rfl, g1, by simpa using g2, fun j hj => (World.cell?_of_block (w := W5) (a := ⟨b, 0 + j, none⟩) (Below.heap_setCell _ _ _ _ (by show b ≠ q; omega))).trans (g3 j hj)⟩
        have hb6 : b < W6.heap.size := by rw [HW6.out]; simpa using hb5
        rw [← HW6.out]
        clear hSNe hmx
        obtain ⟨fb', u, hc3, hrun, HF⟩ := H6.done (b := b) (k := X.slots.length) (by omega) hnb hst6 hb6 hFit h1 h2 hz SN hSN
        have HFF := hid HF
        obtain ⟨x0, x1, x2, x3, x4, y0, y1, y2, y3, y4, y5, f0, f1, f2, f3, f4, f5⟩ := H6.cells
        unfold frArr at hrun
        simp only at hrun y0 y1 y2 y3 y4 y5
        clear H5 H6 HF
        go_region
        all_goals
          go_wp2
          go_ret
          obtain ⟨A', hA1, hA2⟩ := HFF.out
          exact ⟨rfl, A', by rw [hput]; exact hA1, hA2⟩
      · go_upto_region 14 with fail
        rw [show (((((w4.setCell ⟨q, 0, none⟩ (.int .u32 X.num)).setCell ⟨q, 1, none⟩ (.int .u64 X.lsn)).setCell ⟨q, 2, none⟩ (.int .i64 X.kind)).setCell ⟨q, 3, none⟩ (.string X.head)).setCell ⟨q, 4, none⟩ (.slice (some ⟨b, 0, none⟩) X.slots.length X.slots.length)) = W5 from HW5.out.symm]
        have hput : putP P1 X = { P1 with F := setFr P1.F X.num ⟨X, g.since⟩, z := if (P1.F X.num).isSome = true then P1.z else P1.z + 1 } := HPT.out _ (by unfold sinceF; rw [if_neg hsn])
        obtain ⟨SN, hSNe⟩ : ∃ SN, SN = g.since := ⟨_, rfl⟩
        have hSN : SN < 18446744073709551616 := by rw [hSNe]; exact H64.out
        rw [← hSNe] at H5 hput
        clear hSNe
        obtain ⟨fb', u, hc3, hrun, HF⟩ := H5.done (b := b) (k := X.slots.length) (by omega) hnb hst5 hb5 hFit h1 h2 hz SN hSN
        have HFF := hid HF
        obtain ⟨x0, x1, x2, x3, x4, y0, y1, y2, y3, y4, y5, f0, f1, f2, f3, f4, f5⟩ := H5.cells
        unfold frArr at hrun
        simp only at hrun y0 y1 y2 y3 y4 y5
        clear H5 HF
        go_region
        all_goals
          go_wp2
          go_ret
          obtain ⟨A', hA1, hA2⟩ := HFF.out
          exact ⟨rfl, A', by rw [hput]; exact hA1, hA2⟩

end Go.Proofs.YtgkfdakieebnmaaGreat

namespace Go.Proofs.YtgkfdakieebnmaaGreat
open Go.RowKit Go.Sort

theorem Sys.putFr {W : World} {p : Nat} {A T : Nat → Prop} {P : PG} {l : LG} {d : DG} (h : Sys W p A P l d) (X : SheetV) (a : Option Addr) (c sn : Nat) (hS : StrsIn T W a X.slots) (hT : ∀ k, T k → ¬ A k ∧ k < W.heap.size) (hF : X.Fits) (h1 : 1 ≤ X.num) (h2 : X.num ≤ 2048) (hz : P.z ≤ 1000000) (hsn : sn < 18446744073709551616) :
    ∃ (fb : Nat) (u : World → World), W.cell? ⟨p, 3, none⟩ = some (.map (some fb)) ∧ (Instr.mapUpdate 101 (.map (some fb)) (.int .u32 X.num) (.agg (frArr ⟨X, sn⟩ a c))).run Tryz.prog W.drew = .ok () (u W.drew) ∧
      Sys (u W.drew) p (fun k => A k ∨ T k) { P with F := setFr P.F X.num ⟨X, sn⟩, z := if (P.F X.num).isSome = true then P.z else P.z + 1 } l d ∧ Kept (fun k => k = fb) W (u W.drew) ∧ A fb := by
  obtain ⟨⟨S, L, D, ⟨fb, pv, M, hP⟩, hL, hD, g4, g5, g6, g7⟩, g8, g9⟩ := h
  obtain ⟨u, hu⟩ := put_ex 49 101 121 fb (.int .u32 X.num) (.agg (frArr ⟨X, sn⟩ a c))
  obtain ⟨hrun, hM, ht⟩ := hu W.drew P.z M (keyL X.num) (hP.map.same rfl) pageKeyed Tryz.underlying101 hz (keyL_key (by omega))
  have hk : Kept (fun k => k = fb) W.drew (u W.drew) := mapTurned_kept ht rfl
  have hk' : Kept (fun k => k = fb) W (u W.drew) := ⟨hk.os, hk.tape, hk.output, hk.size, hk.block⟩
  have hkb : ∀ k, k < W.heap.size → k ≠ fb → (u W.drew).heap[k]? = W.heap[k]? := fun k hk' hne => hk.block k hk' hne
  have hsz : W.heap.size ≤ (u W.drew).heap.size := hk.size
  have hI : Maps.IsMap M := (hP.map.tidy pageKeyed).isMap
  have hzz : Maps.size (M.put (keyL X.num) (.held (.agg (frArr ⟨X, sn⟩ a c)))) = if (P.F X.num).isSome = true then P.z else P.z + 1 := by
    rw [Maps.size_put (hP.map.tidy pageKeyed), hP.map.2]
    cases e : P.F X.num with
    | none => rw [hP.frs.no _ (by omega) e]; rfl
    | some f => rw [(hP.frs.yes _ f (by omega) e).1]; rfl
  rw [hzz] at hM
  have hfr : FrAt (fun k => S k ∨ T k) (u W.drew) X.num (.agg (frArr ⟨X, sn⟩ a c)) ⟨X, sn⟩ :=
    ⟨⟨_, _, rfl, hS.turn hP.map.isMap (fun k hk' hne => hkb k (hT k hk').2 hne) hsz fun k x => .inr x⟩, hF, rfl, hsn⟩
  have hF1 : FrsAt (fun k => S k ∨ T k) (u W.drew) M P.F := hP.frs.turn hP.map.isMap (fun k hk' hne => hkb k (hP.lt k hk') hne) hsz fun k x => .inl x
  have hP' := hP.turn (S' := fun k => S k ∨ T k) (fun k hk' hne => hkb k (hP.lt k hk') hne) hsz (fun k x => .inl x) (by rintro k (x | x); exact Nat.lt_of_lt_of_le (hP.lt k x) hsz; exact Nat.lt_of_lt_of_le (hT k x).2 hsz) hM (hF1.put hI h1 h2 hfr)
  have nfL : ∀ k, L k → k ≠ fb := fun k hk' e => g4 fb hP.sf (e ▸ hk')
  have nfD : ∀ k, D k → k ≠ fb := fun k hk' e => g5 fb hP.sf (e ▸ hk')
  refine ⟨fb, u, hP.cells.c3, hrun, ⟨⟨fun k => S k ∨ T k, L, D, ⟨fb, pv, _, hP'⟩, hL.same (fun k hk' => hkb k (hL.lt hk') (nfL k hk')) hsz, hD.same (fun k hk' => hkb k (hD.lt hk') (nfD k hk')) hsz, ?_, ?_, g6, ?_⟩, g8, ?_⟩, hk', g7 fb (.inl hP.sf)⟩
  · rintro k (x | x) y
    · exact g4 k x y
    · exact (hT k x).1 (g7 k (.inr (.inl y)))
  · rintro k (x | x) y
    · exact g5 k x y
    · exact (hT k x).1 (g7 k (.inr (.inr y)))
  · rintro k ((x | x) | x)
    · exact .inl (g7 k (.inl x))
    · exact .inr x
    · exact .inl (g7 k (.inr x))
  · rintro k (x | x)
    · exact Nat.lt_of_lt_of_le (g9 k x) hsz
    · exact Nat.lt_of_lt_of_le (hT k x).2 hsz

theorem Sys.cell {W : World} {p : Nat} {A : Nat → Prop} {P P' : PG} {l : LG} {d : DG} (h : Sys W p A P l d) (i : Nat) (v : Value) (e : ∀ fb pv, (pvals fb pv P).setIfInBounds i v = pvals fb pv P') (e1 : P'.F = P.F) (e2 : P'.z = P.z) (e3 : P'.picks = P.picks) (e4 : P'.dp = P.dp) (e5 : P'.lp = P.lp) : Sys (W.setCell ⟨p, i, none⟩ v) p A P' l d ∧ A p := by
  obtain ⟨⟨S, L, D, ⟨fb, pv, M, hP⟩, hL, hD, g4, g5, g6, g7⟩, g8, g9⟩ := h
  have k : ∀ b, b ≠ p → (W.setCell ⟨p, i, none⟩ v).heap[b]? = W.heap[b]? := fun b hb => Below.heap_setCell _ _ _ _ hb
  exact ⟨⟨⟨S, L, D, ⟨fb, pv, M, hP.cell i v (e fb pv) e1 e2 e3⟩, by rw [e5]; exact hL.same (fun b hb => k b fun e => g4 p hP.sp (e ▸ hb)) (by simp), by rw [e4]; exact hD.same (fun b hb => k b fun e => g5 p hP.sp (e ▸ hb)) (by simp), g4, g5, g6, g7⟩, g8.trans e4.symm, fun b hb => by simpa using g9 b hb⟩, g7 p (.inl hP.sp)⟩

theorem Sys.pcells {W : World} {p : Nat} {A : Nat → Prop} {P : PG} {l : LG} {d : DG} (h : Sys W p A P l d) : ∃ fb pv, PCells W p fb pv P := by
  obtain ⟨⟨S, L, D, ⟨fb, pv, M, hP⟩, _⟩, _⟩ := h
  exact ⟨fb, pv, hP.cells⟩

theorem Sys.has {W : World} {p : Nat} {A : Nat → Prop} {P : PG} {l : LG} {d : DG} (h : Sys W p A P l d) : A p ∧ p < W.heap.size := by
  obtain ⟨⟨S, L, D, ⟨fb, pv, M, hP⟩, hL, hD, g4, g5, g6, g7⟩, g8, g9⟩ := h
  exact ⟨g7 p (.inl hP.sp), hP.lt p hP.sp⟩

def getP (P : PG) (X : SheetV) : PG := { P with F := setFr P.F X.num ⟨X, 0⟩, z := P.z + 1, fetched := P.fetched + 1 }

theorem copied_strs {B b : Nat} {w : World} {L : List ByteArray} (h1 : B ≤ b) (h2 : b < w.heap.size) (h : RowV w b L.length (fun j => .string (L.getD j ByteArray.empty))) : StrsFrom B w (some ⟨b, 0, none⟩) L :=
  .inr ⟨b, 0, rfl, h1, h2, fun j hj => by
    rw [Nat.zero_add, (h j hj).1]
    show some (Value.string (L.getD j ByteArray.empty)) = _
    rw [List.getD_eq_getElem?_getD, List.getElem?_eq_getElem hj]
    rfl⟩

set_option maxHeartbeats 1600000 in
set_option maxRecDepth 8000 in
theorem get_here {w : World} {p : Nat} {A : Nat → Prop} {P : PG} {l : LG} {d : DG} (hS : Sys w p A P l d) (n : Nat) (h1 : 1 ≤ n) (h2 : n ≤ 2048) {f : FrV} (hf : P.F n = some f) :
    Calls Tryz.prog 15 #[.pointer (some ⟨p, 0, none⟩), .int .u32 n] w (ShOut w f.sh fun v => .returned (.tuple #[v, .int .i64 0])) := by
  have HMB : Hid (∀ W, Calls Tryz.prog 43 #[.int .u32 n] W fun x w' => x = .returned (.bool true) ∧ W = w') := fun W => by
    have := pmayBe_any n W (by omega)
    rw [decide_eq_true (by omega)] at this
    exact this.mono fun x w' h => ⟨h.1, h.2.symm⟩
  obtain ⟨⟨S, L, D, ⟨fb, pv, M, hP⟩, _⟩, _, _⟩ := hS
  obtain ⟨g, ga, gc, hlook, hold, hg64, hyes⟩ := hP.looks (n := n) (by omega)
  obtain ⟨rfl, hst⟩ := hyes f hf
  rw [hf] at hlook
  have hfit := (hP.frs.yes n g (by omega) hf).2.fits
  have HC : Hid (∀ (W : World), StrsAt W ga g.sh.slots → Calls Tryz.prog 44 #[g.sh.val ga gc] W fun e w' => ∃ b, e = .returned (g.sh.val (some ⟨b, 0, none⟩) g.sh.slots.length) ∧ W.heap.size < b ∧ b < w'.heap.size ∧ RowV w' b g.sh.slots.length (fun j => .string (g.sh.slots.getD j ByteArray.empty)) ∧ Below W.heap.size W w') := fun W hm => pcopyOf_any g.sh ga gc W (hfit.ok hm)
  have HV : Hid (g.sh.val ga gc = .agg #[.int .u32 g.sh.num, .int .u64 g.sh.lsn, .int .i64 g.sh.kind, .string g.sh.head, .slice ga g.sh.slots.length gc]) := rfl
  rw [HV.out] at HC
  have c3 := hP.cells.c3
  have hpl : p < w.heap.size := hP.lt p hP.sp
  obtain ⟨W0, HW0⟩ : ∃ W0, Hid (W0 = w.alloc (.cells #[.int .u32 0, .int .u64 0, .int .i64 0, .string ⟨#[]⟩, .slice none 0 0] 52)) := ⟨_, rfl⟩
  have b0 : Below w.heap.size w W0 := by rw [HW0.out]; exact (Below.refl _ _).alloc (Nat.le_refl _) _
  have kz : Blk W0 w.heap.size zero5 52 := by rw [HW0.out]; exact Blk.made w _ _
  have c3' : W0.cell? ⟨p, 3, none⟩ = some (.map (some fb)) := (b0.cell (p := ⟨p, 3, none⟩) hpl).trans c3
  have k1 := hlook W0 b0
  have HST := hid hst
  clear hP hlook hold hf hst c3 hyes
  simp only [Option.isSome] at k1
  go_enter Tryz.func15, Tryz.ntmps15
  go_wp2_with fail
  rw [← HW0.out]
  refine (HMB.out _).mono ?_
  rintro x w1 ⟨rfl, rfl⟩
  obtain ⟨W2, HW2⟩ : ∃ W2, Hid (W2 = W0.alloc (.cells #[.int .u32 g.sh.num, .int .u64 g.sh.lsn, .int .i64 g.sh.kind, .string g.sh.head, .slice ga g.sh.slots.length gc, .int .u64 g.since] 121)) := ⟨_, rfl⟩
  have b2 : Below W0.heap.size W0 W2 := by rw [HW2.out]; exact (Below.refl _ _).alloc (Nat.le_refl _) _
  go_wp2_with fail
  rw [← HW2.out]
  have bel2 := below_chain b0 b2
  refine (HC.out _ (HST.out.at.below bel2)).mono ?_
  rintro e w3 ⟨b, rfl, hb1, hb2, hrow, b3⟩
  have bel3 := below_chain bel2 b3
  have zz := bel2.size
  have kz3 := (kz.same (b2.block _ kz.lt)).same (b3.block _ (Nat.lt_of_lt_of_le kz.lt b2.size))
  have HXV : Hid (g.sh.val (some ⟨b, 0, none⟩) g.sh.slots.length = .agg #[.int .u32 g.sh.num, .int .u64 g.sh.lsn, .int .i64 g.sh.kind, .string g.sh.head, .slice (some ⟨b, 0, none⟩) g.sh.slots.length g.sh.slots.length]) := rfl
  rw [HXV.out]
  clear HW0 HW2 kz k1 c3'
  have f0 := kz3.frozen 0
  have f1 := kz3.frozen 1
  have f2 := kz3.frozen 2
  have f3 := kz3.frozen 3
  have f4 := kz3.frozen 4
  have e0 : w3.cell? ⟨w.heap.size, 0, none⟩ = some (.int .u32 0) := kz3.cell 0
  have e1 : w3.cell? ⟨w.heap.size, 1, none⟩ = some (.int .u64 0) := kz3.cell 1
  have e2 : w3.cell? ⟨w.heap.size, 2, none⟩ = some (.int .i64 0) := kz3.cell 2
  have e3 : w3.cell? ⟨w.heap.size, 3, none⟩ = some (.string ⟨#[]⟩) := kz3.cell 3
  have e4 : w3.cell? ⟨w.heap.size, 4, none⟩ = some (.slice none 0 0) := kz3.cell 4
  have hst3 : StrsFrom (w.heap.size + 1) w3 (some ⟨b, 0, none⟩) g.sh.slots := copied_strs (by omega) hb2 hrow
  go_wp2
  refine bodyPost_ret (v := .tuple #[.agg #[.int .u32 g.sh.num, .int .u64 g.sh.lsn, .int .i64 g.sh.kind, .string g.sh.head, .slice (some ⟨b, 0, none⟩) g.sh.slots.length g.sh.slots.length], .int .i64 0]) (by simp [results, Tryz.results15, go_sem, e0, e1, e2, e3, e4]) rfl ?_
  exact ⟨⟨some ⟨b, 0, none⟩, g.sh.slots.length, rfl, (hst3.store5 (by omega) _ _ _ _ _).mono (by omega), below_set5 bel3 (Nat.le_refl _) _ _ _ _ _⟩⟩

end Go.Proofs.YtgkfdakieebnmaaGreat

namespace Go.Proofs.YtgkfdakieebnmaaGreat
open Go.RowKit Go.Sort

theorem fe_ok {d : DG} {n : Nat} (hn : n < 4294967296) (h : feE d n = 0) : (feX d n).num = n ∧ (feX d n).Fits := by
  unfold feE at h
  unfold feX
  split at h
  · rename_i hc
    rw [if_pos hc]
    unfold chE at h
    unfold chX
    have key : ∀ s, rdB n s = true → (rdP n s).num = n ∧ (rdP n s).Fits := fun s hs => ⟨by unfold rdP; rw [if_pos hs], rdP_fit hn s⟩
    split at h
    · rename_i hp
      rw [if_pos hp]
      refine key _ ?_
      unfold chP at hp
      simp only [Bool.and_eq_true] at hp
      exact hp.1
    · rename_i hp
      rw [if_neg hp]
      split at h
      · rename_i ht
        rw [if_pos ht]
        exact key _ ht
      · cases h
  · contradiction

structure GeOut (w : World) (p : Nat) (A : Nat → Prop) (X : SheetV) (P : PG) (l : LG) (d : DG) (x : Ending) (w' : World) : Prop where
  out : ∃ a c A', x = .returned (.tuple #[X.val a c, .int .i64 0]) ∧ StrsFrom w.heap.size w' a X.slots ∧ Sys w' p A' P l d ∧ Moves A A' w w' ∧ ∀ b o, a = some ⟨b, o, none⟩ → ¬ A' b

set_option maxHeartbeats 3200000 in
set_option maxRecDepth 8000 in
theorem get_new {w : World} {p : Nat} {A : Nat → Prop} {P P1 : PG} {l l1 : LG} {d d1 : DG} (hS : Sys w p A P l d) (n : Nat) (h1 : 1 ≤ n) (h2 : n ≤ 2048) (hf : P.F n = none) (hD : d.dead = false) (hs : ∀ q, (readD d q).size ≤ 1000000) (hE : feE d n = 0)
    (hR : RoomTo p P l d P1 l1 d1) (hN : P1.F n = none) (hz : P1.z ≤ 1000000) (hft : P1.fetched ≤ 1000000) :
    Calls Tryz.prog 15 #[.pointer (some ⟨p, 0, none⟩), .int .u32 n] w (GeOut w p A (feX d n) (getP P1 (feX d n)) l1 d1) := by
  have HMB : Hid (∀ W, Calls Tryz.prog 43 #[.int .u32 n] W fun x w' => x = .returned (.bool true) ∧ W = w') := fun W => by
    have := pmayBe_any n W (by omega)
    rw [decide_eq_true (by omega)] at this
    exact this.mono fun x w' h => ⟨h.1, h.2.symm⟩
  obtain ⟨hXn, hFit⟩ := fe_ok (d := d) (n := n) (by omega) hE
  have HS := hid hS
  obtain ⟨⟨S, L, DD, ⟨fb, pv, M, hP⟩, hL, hDD, _⟩, _, _⟩ := hS
  have hpl : p < w.heap.size := hP.lt p hP.sp
  have HFE : Hid (∀ W, Below w.heap.size w W → Calls Tryz.prog 45 #[.pointer (some ⟨p, 0, none⟩), .int .u32 n] W (ShOut W (feX d n) fun v => .returned (.tuple #[v, .int .i64 0]))) := fun W hb => by
    have := fetch_any (d := d) ((hb.cell (p := ⟨p, 0, none⟩) hpl).trans hP.cells.c0) (Nat.lt_of_lt_of_le hpl hb.size) (hDD.below hb) hD n h2 hs
    rw [hE] at this
    exact this
  obtain ⟨g, ga, gc, hlook, hold, hg64, hyes⟩ := hP.looks (n := n) (by omega)
  rw [hf] at hlook
  have c3 := hP.cells.c3
  obtain ⟨W0, HW0⟩ : ∃ W0, Hid (W0 = w.alloc (.cells #[.int .u32 0, .int .u64 0, .int .i64 0, .string ⟨#[]⟩, .slice none 0 0] 52)) := ⟨_, rfl⟩
  have b0 : Below w.heap.size w W0 := by rw [HW0.out]; exact (Below.refl _ _).alloc (Nat.le_refl _) _
  have kz : Blk W0 w.heap.size zero5 52 := by rw [HW0.out]; exact Blk.made w _ _
  have c3' : W0.cell? ⟨p, 3, none⟩ = some (.map (some fb)) := (b0.cell (p := ⟨p, 3, none⟩) hpl).trans c3
  have k1 := hlook W0 b0
  clear hP hlook hold hf c3 hyes hL hDD hs hE
  simp only [Option.isSome] at k1
  generalize feX d n = X at *
  subst hXn
  have HC : Hid (∀ (a : Option Addr) (c : Nat) (W : World), StrsAt W a X.slots → Calls Tryz.prog 44 #[X.val a c] W fun e w' => ∃ b, e = .returned (X.val (some ⟨b, 0, none⟩) X.slots.length) ∧ W.heap.size < b ∧ b < w'.heap.size ∧ RowV w' b X.slots.length (fun j => .string (X.slots.getD j ByteArray.empty)) ∧ Below W.heap.size W w') := fun a c W hm => pcopyOf_any X a c W (hFit.ok hm)
  go_enter Tryz.func15, Tryz.ntmps15
  go_wp2_with fail
  rw [← HW0.out]
  refine (HMB.out _).mono ?_
  rintro x w1 ⟨rfl, rfl⟩
  obtain ⟨W2, HW2⟩ : ∃ W2, Hid (W2 = W0.alloc (.cells #[.int .u32 g.sh.num, .int .u64 g.sh.lsn, .int .i64 g.sh.kind, .string g.sh.head, .slice ga g.sh.slots.length gc, .int .u64 g.since] 121)) := ⟨_, rfl⟩
  have b2 : Below W0.heap.size W0 W2 := by rw [HW2.out]; exact (Below.refl _ _).alloc (Nat.le_refl _) _
  go_wp2_with fail
  rw [← HW2.out]
  have bel2 := below_chain b0 b2
  refine (HFE.out _ bel2).mono ?_
  rintro x w3 ⟨a, c, rfl, hs3, b3⟩
  have bel3 := below_chain bel2 b3
  have kz3 := (kz.same (b2.block _ kz.lt)).same (b3.block _ (Nat.lt_of_lt_of_le kz.lt b2.size))
  have z3 : w.heap.size < w3.heap.size := Nat.lt_of_lt_of_le kz.lt (Nat.le_trans b2.size b3.size)
  have HXV : Hid (X.val a c = .agg #[.int .u32 X.num, .int .u64 X.lsn, .int .i64 X.kind, .string X.head, .slice a X.slots.length c]) := rfl
  have HC2 : Hid (∀ (W : World), StrsAt W a X.slots → Calls Tryz.prog 44 #[X.val a c] W fun e w' => ∃ b, e = .returned (X.val (some ⟨b, 0, none⟩) X.slots.length) ∧ W.heap.size < b ∧ b < w'.heap.size ∧ RowV w' b X.slots.length (fun j => .string (X.slots.getD j ByteArray.empty)) ∧ Below W.heap.size W w') := HC.out a c
  rw [HXV.out] at HC2 ⊢
  have z2 : w.heap.size < W2.heap.size := Nat.lt_of_lt_of_le kz.lt b2.size
  clear HW0 HW2 kz k1 c3' HC HFE HMB
  obtain ⟨W4, HW4⟩ : ∃ W4, Hid (W4 = w3.alloc (.cells #[.int .u32 X.num, .int .u64 X.lsn, .int .i64 X.kind, .string X.head, .slice a X.slots.length c] 52)) := ⟨_, rfl⟩
  have b4 : Below w3.heap.size w3 W4 := by rw [HW4.out]; exact (Below.refl _ _).alloc (Nat.le_refl _) _
  have kx4 : Blk W4 w3.heap.size (X.arr a c) 52 := by rw [HW4.out]; exact Blk.made w3 _ _
  have kz4 := kz3.same (b4.block _ z3)
  have bel4 := below_chain bel3 b4
  have hs4 := hs3.below b4
  go_wp2_with fail
  rw [← HW4.out]
  have nA : ∀ k, w.heap.size ≤ k → ¬ A k := fun k hk hA => by have := HS.out.lt k hA; omega
  refine (hR W4 A (HS.out.below bel4)).mono ?_
  rintro x w5 ⟨rfl, A1, hS5, hm5⟩
  have mz := hm5.off (r := w.heap.size) kz4.lt (nA _ (Nat.le_refl _))
  have mx := hm5.off (r := w3.heap.size) kx4.lt (nA _ (by omega))
  have kz5 := kz4.same mz.1
  have kx5 := kx4.same mx.1
  have hx5 : StrsIn (fun k => w.heap.size < k ∧ ¬ A1 k ∧ k < w5.heap.size ∧ k ≠ w3.heap.size) w5 a X.slots := by
    rcases hs3 with e | ⟨b, o, e, g1, g2, g3⟩
    · exact .inl e
    · have k3 := hm5.off (r := b) (by have := b4.size; omega) (nA b (by omega))
      have hb5 : b < w5.heap.size := by have := b4.size; have := hm5.1.size; omega
      exact .inr ⟨b, o, e, ⟨by omega, k3.2, hb5, by omega⟩, hb5, fun i hi => (World.cell?_of_block (w := W4) (a := ⟨b, o + i, none⟩) k3.1).trans (((b4.cell (p := ⟨b, o + i, none⟩) g2)).trans (g3 i hi))⟩
  have mv5 : Moves A A1 w w5 := (Moves.of_kept (Kept.of_below bel4)).trans hm5
  clear HW4 b4 kx4 kz4 hs4 hs3 kz3 b3 b2 b0 bel2 bel3 z2
  obtain ⟨fb5, u, hc3, hrun, hS6, hk6, hfb⟩ := hS5.putFr X a c 0 hx5 (fun k hk => ⟨hk.2.1, hk.2.2.1⟩) hFit h1 h2 hz (by omega)
  generalize hq : w3.heap.size = q at *
  have x0 : w5.cell? ⟨q, 0, none⟩ = some (.int .u32 X.num) := kx5.cell 0
  have x1 : w5.cell? ⟨q, 1, none⟩ = some (.int .u64 X.lsn) := kx5.cell 1
  have x2 : w5.cell? ⟨q, 2, none⟩ = some (.int .i64 X.kind) := kx5.cell 2
  have x3 : w5.cell? ⟨q, 3, none⟩ = some (.string X.head) := kx5.cell 3
  have x4 : w5.cell? ⟨q, 4, none⟩ = some (.slice a X.slots.length c) := kx5.cell 4
  unfold frArr at hrun
  simp only at hrun
  rw [show ((0 : Nat) : Int) = 0 from rfl] at hrun
  go_upto_region 12 with fail
  obtain ⟨w6, HW6⟩ : ∃ w6, Hid (w6 = u w5.drew) := ⟨_, rfl⟩
  rw [← HW6.out] at hS6 hk6 hrun
  have kb6 : ∀ k, k < w5.heap.size → ¬ A1 k → w6.heap[k]? = w5.heap[k]? := fun k hk hA => hk6.block k hk fun e => hA (e ▸ hfb)
  have kz6 := kz5.same (kb6 _ kz5.lt mz.2)
  have kx6 := kx5.same (kb6 _ kx5.lt mx.2)
  have hx6 := hx5.same (w' := w6) (fun k hk => kb6 k hk.2.2.1 hk.2.1) hk6.size
  have hfe6 : w6.cell? ⟨p, 5, none⟩ = some (.int .i64 P1.fetched) := by
    obtain ⟨fb', pv', hc'⟩ := hS6.pcells
    exact hc'.c5
  have hfr6 : w6.frozen? ⟨p, 5, none⟩ = false := by
    obtain ⟨fb', pv', hc'⟩ := hS6.pcells
    exact hc'.fr 5
  have hcl := hS6.cell (P' := getP P1 X) 5 (.int .i64 ((P1.fetched + 1 : Nat) : Int)) (fun fb pv => by unfold getP pvals; rfl) rfl (by show P1.z + 1 = _; simp only [hN]; rfl) rfl rfl rfl
  obtain ⟨hS7, hAp⟩ := hcl
  obtain ⟨w7, HW7⟩ : ∃ w7, Hid (w7 = w6.setCell ⟨p, 5, none⟩ (.int .i64 ((P1.fetched + 1 : Nat) : Int))) := ⟨_, rfl⟩
  have kb7 : ∀ k, k ≠ p → w7.heap[k]? = w6.heap[k]? := fun k hk => by rw [HW7.out]; exact Below.heap_setCell _ _ _ _ hk
  have hs7 : w7.heap.size = w6.heap.size := by rw [HW7.out]; simp
  have hpA : A1 p := hS5.has.1
  have kz7 := kz6.same (kb7 _ fun e => mz.2 (e ▸ hpA))
  have kx7 := kx6.same (kb7 _ fun e => mx.2 (e ▸ hpA))
  have hx7 := hx6.same (w' := w7) (fun k hk => kb7 k fun e => hk.2.1 (e ▸ hpA)) (by omega)
  rw [← HW7.out] at hS7
  have H7 := hid hS7
  have HX7 := hid hx7
  have HK67 : Hid (Kept (fun k => k = fb5 ∨ k = p) w5 w7) := (hk6.mono fun k x => .inl x).trans (by rw [HW7.out]; exact Kept.setCell _ _ _ _ _ (.inr rfl))
  have y0 : w7.cell? ⟨q, 0, none⟩ = some (.int .u32 X.num) := kx7.cell 0
  have y1 : w7.cell? ⟨q, 1, none⟩ = some (.int .u64 X.lsn) := kx7.cell 1
  have y2 : w7.cell? ⟨q, 2, none⟩ = some (.int .i64 X.kind) := kx7.cell 2
  have y3 : w7.cell? ⟨q, 3, none⟩ = some (.string X.head) := kx7.cell 3
  have y4 : w7.cell? ⟨q, 4, none⟩ = some (.slice a X.slots.length c) := kx7.cell 4
  have HZ7 := hid kz7
  have hin : ((P1.fetched + 1 : Nat) : Int) = (P1.fetched : Int) + 1 := by omega
  have HW7' : Hid (w7 = w6.setCell ⟨p, 5, none⟩ (.int .i64 ((P1.fetched : Int) + 1))) := by show _ = _; rw [← hin]; exact HW7.out
  clear hS5 hS6 hS7 kz5 kz6 kz7 kx5 kx6 kx7 hx5 hx6 hx7 HW7 hin hs7 kb6 kb7
  go_region
  go_upto_region 14 with fail
  rw [← HW7'.out]
  go_wp2_with fail
  refine (HC2.out _ HX7.out.at).mono ?_
  rintro e w8 ⟨b, rfl, hb1, hb2, hrow, b8⟩
  have kz8 := HZ7.out.same (b8.block _ HZ7.out.lt)
  have HXV2 : Hid (X.val (some ⟨b, 0, none⟩) X.slots.length = .agg #[.int .u32 X.num, .int .u64 X.lsn, .int .i64 X.kind, .string X.head, .slice (some ⟨b, 0, none⟩) X.slots.length X.slots.length]) := rfl
  rw [HXV2.out]
  have f0 := kz8.frozen 0
  have f1 := kz8.frozen 1
  have f2 := kz8.frozen 2
  have f3 := kz8.frozen 3
  have f4 := kz8.frozen 4
  have e0 : w8.cell? ⟨w.heap.size, 0, none⟩ = some (.int .u32 0) := kz8.cell 0
  have e1 : w8.cell? ⟨w.heap.size, 1, none⟩ = some (.int .u64 0) := kz8.cell 1
  have e2 : w8.cell? ⟨w.heap.size, 2, none⟩ = some (.int .i64 0) := kz8.cell 2
  have e3 : w8.cell? ⟨w.heap.size, 3, none⟩ = some (.string ⟨#[]⟩) := kz8.cell 3
  have e4 : w8.cell? ⟨w.heap.size, 4, none⟩ = some (.slice none 0 0) := kz8.cell 4
  have hsz7 := HK67.out.size
  have hsz5 := mv5.1.size
  have hst8 : StrsFrom (w.heap.size + 1) w8 (some ⟨b, 0, none⟩) X.slots := copied_strs (by omega) hb2 hrow
  have hS8 := H7.out.below b8
  go_wp2
  refine bodyPost_ret (v := .tuple #[.agg #[.int .u32 X.num, .int .u64 X.lsn, .int .i64 X.kind, .string X.head, .slice (some ⟨b, 0, none⟩) X.slots.length X.slots.length], .int .i64 0]) (by simp [results, Tryz.results15, go_sem, e0, e1, e2, e3, e4]) rfl ?_
  have hnz : ¬ (A1 w.heap.size ∨ (w.heap.size < w.heap.size ∧ ¬ A1 w.heap.size ∧ w.heap.size < w5.heap.size ∧ w.heap.size ≠ q)) := by
    rintro (x | x)
    · exact mz.2 x
    · omega
  obtain ⟨W9, HW9⟩ : ∃ W9, Hid (W9 = store5 w8 w.heap.size (.int .u32 X.num) (.int .u64 X.lsn) (.int .i64 X.kind) (.string X.head) (.slice (some ⟨b, 0, none⟩) X.slots.length X.slots.length)) := ⟨_, rfl⟩
  have hS9 : Sys W9 p (fun k => A1 k ∨ (w.heap.size < k ∧ ¬ A1 k ∧ k < w5.heap.size ∧ k ≠ q)) (getP P1 X) l1 d1 := by
    rw [HW9.out]
    exact hS8.same (fun k hk => store5_other _ _ _ _ _ _ _ _ fun e => hnz (e ▸ hk)) (by rw [store5_size]; exact Nat.le_refl _)
  have hm9 : Moves A (fun k => A1 k ∨ (w.heap.size < k ∧ ¬ A1 k ∧ k < w5.heap.size ∧ k ≠ q)) w W9 := by
    have hk7 := HK67.out
    have hk9 : Kept (fun k => k = w.heap.size) w8 W9 := by
      rw [HW9.out]
      exact ⟨rfl, rfl, rfl, by rw [store5_size]; exact Nat.le_refl _, fun k _ hk => store5_other _ _ _ _ _ _ _ _ hk⟩
    refine ⟨⟨hk9.os.trans (b8.os.trans (hk7.os.trans mv5.1.os)), hk9.tape.trans (b8.tape.trans (hk7.tape.trans mv5.1.tape)), hk9.output.trans (b8.output.trans (hk7.output.trans mv5.1.output)), by have := hk9.size; have := b8.size; omega, fun k hk hA => ?_⟩, ?_⟩
    · have m1 := mv5.off hk hA
      exact (hk9.block k (by have := b8.size; omega) (by omega)).trans ((b8.block k (by omega)).trans ((hk7.block k (by omega) (by rintro (e | e); exact m1.2 (e ▸ hfb); exact m1.2 (e ▸ hpA))).trans m1.1))
    · rintro k (x | x)
      · exact mv5.2 k x
      · exact .inr (by omega)
  refine ⟨⟨some ⟨b, 0, none⟩, X.slots.length, fun k => A1 k ∨ (w.heap.size < k ∧ ¬ A1 k ∧ k < w5.heap.size ∧ k ≠ q), rfl, (hst8.store5 (by omega) _ _ _ _ _).mono (by omega), ?_, ?_, ?_⟩⟩
  · rw [HW9.out] at hS9; exact hS9
  · rw [HW9.out] at hm9; exact hm9
  · rintro b' o' e (x | x)
    · cases e
      have := H7.out.lt b (.inl x)
      omega
    · cases e
      omega

end Go.Proofs.YtgkfdakieebnmaaGreat

namespace Go.Proofs.YtgkfdakieebnmaaGreat
open Go.RowKit Go.Sort Go.Shelf

def pool0 (dp lp most : Nat) : PG := ⟨dp, lp, most, fun _ => none, 0, [], 0, 0⟩

set_option maxHeartbeats 800000 in
set_option maxRecDepth 60000 in
theorem pnew_ok (w : World) (dp lp most : Nat) (h1 : 4 ≤ most) (h2 : most ≤ 256) :
    Calls Tryz.prog 12 #[.pointer (some ⟨dp, 0, none⟩), .pointer (some ⟨lp, 0, none⟩), .int .i64 most] w fun e w' => ∃ p S, e = .returned (.tuple #[.pointer (some ⟨p, 0, none⟩), .int .i64 0]) ∧ IsPool w' p S (pool0 dp lp most) ∧ (∀ k, S k → w.heap.size ≤ k) ∧ Below w.heap.size w w' := by
  have hmm := @run_makeMap Tryz.prog
  have h1' : (4 : Int) ≤ most := by omega
  have h2' : (most : Int) ≤ 256 := by omega
  go_enter Tryz.func12, Tryz.ntmps12
  go_wp2
  go_ret2
  refine ⟨w.heap.size + 1, fun k => k = w.heap.size ∨ k = w.heap.size + 1, rfl, ⟨w.heap.size, .slice none 0 0, .map [], ⟨?_, ?_, ⟨fun n _ _ => rfl, (fun n f _ e => by cases e), (fun l hl => by cases hl)⟩, ⟨none, 0, rfl, Nat.le_refl _, by unfold maxLen; omega, .inl rfl⟩, .inr rfl, .inl rfl, (fun b e => by cases e), (fun b e => by cases e), ?_⟩⟩, (by rintro k (e | e) <;> omega), ((Below.refl _ _).alloc (Nat.le_refl _) _).alloc (by simp) _⟩
  · have h := Blk.made (w.alloc (.map #[] 0)) (pvals w.heap.size (.slice none 0 0) (pool0 dp lp most)) 103
    have e : (w.alloc (.map #[] 0)).heap.size = w.heap.size + 1 := by simp
    rw [e] at h
    exact h
  · exact (MapV.made 49 w).same (heap_old _ _ (by simp))
  · rintro k (e | e)
    · simp; omega
    · simp; omega

section
variable (w : World)

end

end Go.Proofs.YtgkfdakieebnmaaGreat
