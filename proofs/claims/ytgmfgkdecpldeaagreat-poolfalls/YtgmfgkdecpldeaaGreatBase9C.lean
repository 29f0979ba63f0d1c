/-
  A pool whose blocks stand still while its log and its disk move.
  The walks of (*pool.Pool).writeSure and (*pool.Pool).order, on a disk without a plan on which nothing is loose.
  Flush with a pool beside it; the walk of (*pool.Pool).writeOut.
  The walk of (*pool.Pool).Write.
  The walks of (*pool.Pool).leaver without picks, and of (*pool.Pool).makeRoom where there is none.
-/
import Derived.Test.YtgmfgkdecpldeaaGreatBase8C
import Derived.Test.YtgmfgkdecpldeaaGreatWalP1C
namespace Go.Proofs.YtgmfgkdecpldeaaGreat
open Go.RowKit Go.Sort Go.Shelf
set_option linter.unusedVariables false
set_option linter.unusedSimpArgs false

/-- A pool of the blocks S; its log and its disk are among B. -/
structure DevS (w : World) (p : Nat) (S B : Nat → Prop) (P : PG) (l : LG) (d : DG) : Prop where
  pool : IsPool w p S P
  ex : ∃ L D, IsLog w P.lp L l ∧ IsDisk w P.dp D d ∧ (∀ k, L k → ¬ D k) ∧ ∀ k, L k ∨ D k → B k
  sb : ∀ k, S k → ¬ B k
  ld : l.dp = P.dp
  lt : ∀ k, B k → k < w.heap.size

theorem Sys.dev {w : World} {p : Nat} {A : Nat → Prop} {P : PG} {l : LG} {d : DG} (h : Sys w p A P l d) : ∃ S B, DevS w p S B P l d ∧ ∀ k, S k ∨ B k → A k := by
  obtain ⟨⟨S, L, D, hP, hL, hD, g4, g5, g6, g7⟩, g8, g9⟩ := h
  refine ⟨S, fun k => L k ∨ D k, ⟨hP, ⟨L, D, hL, hD, g6, fun _ x => x⟩, ?_, g8, ?_⟩, ?_⟩
  · rintro k x (y | y)
    · exact g4 k x y
    · exact g5 k x y
  · rintro k (x | x)
    · exact hL.lt x
    · exact hD.lt x
  · rintro k (x | x | x)
    · exact g7 k (.inl x)
    · exact g7 k (.inr (.inl x))
    · exact g7 k (.inr (.inr x))

section
variable {w w' : World} {p : Nat} {S B : Nat → Prop} {P : PG} {l : LG} {d : DG}

theorem DevS.sys (h : DevS w p S B P l d) : Sys w p (fun k => S k ∨ B k) P l d := by
  obtain ⟨hP, ⟨L, D, hL, hD, g6, g7⟩, sb, g8, g9⟩ := h
  refine ⟨⟨S, L, D, hP, hL, hD, fun k x y => sb k x (g7 k (.inl y)), fun k x y => sb k x (g7 k (.inr y)), g6, ?_⟩, g8, ?_⟩
  · rintro k (x | x)
    · exact .inl x
    · exact .inr (g7 k x)
  · rintro k (x | x)
    · exact hP.lt x
    · exact g9 k x

theorem DevS.same (h : DevS w p S B P l d) (k1 : ∀ b, S b → w'.heap[b]? = w.heap[b]?) (k2 : ∀ b, B b → w'.heap[b]? = w.heap[b]?) (hs : w.heap.size ≤ w'.heap.size) : DevS w' p S B P l d := by
  obtain ⟨hP, ⟨L, D, hL, hD, g6, g7⟩, sb, g8, g9⟩ := h
  exact ⟨hP.same k1 hs, ⟨L, D, hL.same (fun b hb => k2 b (g7 b (.inl hb))) hs, hD.same (fun b hb => k2 b (g7 b (.inr hb))) hs, g6, g7⟩, sb, g8, fun b hb => Nat.lt_of_lt_of_le (g9 b hb) hs⟩

theorem DevS.below (h : DevS w p S B P l d) (k : Below w.heap.size w w') : DevS w' p S B P l d := h.same (fun b hb => k.block b (h.pool.lt hb)) (fun b hb => k.block b (h.lt b hb)) k.size

theorem DevS.drewN (h : DevS w p S B P l d) (n : Nat) : DevS (w.drewN n) p S B P l d := h.same (fun _ _ => rfl) (fun _ _ => rfl) (Nat.le_refl _)

theorem DevS.pcells (h : DevS w p S B P l d) : ∃ fb pv, PCells w p fb pv P := h.sys.pcells

/-- The pool's blocks stand still. -/
theorem DevS.still (h : DevS w p S B P l d) {B' : Nat → Prop} (hm : Moves B B' w w') : ∀ k, S k → w'.heap[k]? = w.heap[k]? := fun k hk => (hm.off (h.pool.lt hk) (h.sb k hk)).1

theorem DevS.disk (h : DevS w p S B P l d) : ∃ D, IsDisk w P.dp D d ∧ (∀ k, D k → B k) ∧ ∀ w' D' d', IsDisk w' P.dp D' d' → Moves D D' w w' → ∃ B', DevS w' p S B' P l d' ∧ Moves B B' w w' := by
  have h' := h
  obtain ⟨hP, ⟨L, D, hL, hD, g6, g7⟩, sb, g8, g9⟩ := h
  refine ⟨D, hD, fun k x => g7 k (.inr x), fun w' D' d' hD' hm => ?_⟩
  have kL := hL.beside hm g6
  have hm' : Moves B (fun k => L k ∨ D' k) w w' := ⟨hm.1.mono fun k x => g7 k (.inr x), by
    rintro k (x | x)
    · exact .inl (g7 k (.inl x))
    · rcases hm.2 k x with y | y
      · exact .inl (g7 k (.inr y))
      · exact .inr y⟩
  refine ⟨fun k => L k ∨ D' k, ⟨hP.same (h'.still hm') hm.1.size, ⟨L, D', kL.1, hD', kL.2, fun _ x => x⟩, fun k x => (hm'.off (hP.lt x) (sb k x)).2, g8, ?_⟩, hm'⟩
  rintro k (x | x)
  · exact kL.1.lt x
  · exact hD'.lt x

theorem DevS.log (h : DevS w p S B P l d) : ∃ L, IsLog w P.lp L l ∧ (∀ k, L k → B k) ∧ ∀ w' L' l', IsLog w' P.lp L' l' → l'.dp = l.dp → Moves L L' w w' → ∃ B', DevS w' p S B' P l' d ∧ Moves B B' w w' := by
  have h' := h
  obtain ⟨hP, ⟨L, D, hL, hD, g6, g7⟩, sb, g8, g9⟩ := h
  refine ⟨L, hL, fun k x => g7 k (.inl x), fun w' L' l' hL' hdp hm => ?_⟩
  have kD := hD.beside hm fun k x y => g6 k y x
  have hm' : Moves B (fun k => L' k ∨ D k) w w' := ⟨hm.1.mono fun k x => g7 k (.inl x), by
    rintro k (x | x)
    · rcases hm.2 k x with y | y
      · exact .inl (g7 k (.inl y))
      · exact .inr y
    · exact .inl (g7 k (.inr x))⟩
  refine ⟨fun k => L' k ∨ D k, ⟨hP.same (h'.still hm') hm.1.size, ⟨L', D, hL', kD.1, fun k x y => kD.2 k y x, fun _ x => x⟩, fun k x => (hm'.off (hP.lt x) (sb k x)).2, hdp.trans g8, ?_⟩, hm'⟩
  rintro k (x | x)
  · exact hL'.lt x
  · exact kD.1.lt x

end

end Go.Proofs.YtgmfgkdecpldeaaGreat

namespace Go.Proofs.YtgmfgkdecpldeaaGreat
open Go.RowKit Go.Sort Go.Shelf
set_option linter.unusedVariables false
set_option linter.unusedSimpArgs false

/-- A disk without a plan, on which nothing is loose; of at most N calls. -/
structure DOk (d : DG) (N : Nat) : Prop where
  up : d.dead = false
  np : d.plan = []
  ok : d.ok
  no : d.loose = []
  fr : ∀ q, d.fresh q = none
  nf : d.nF ≤ 10
  calls : d.calls ≤ N
  ns : d.nS ≤ N

/-- A page was written, and synced. -/
def wsD (d : DG) (q : Nat) (s : ByteArray) : DG := syncD (wrD d q s)

theorem wsD_keep {d : DG} (h : d.loose = []) {q : Nat} (hq : 1 ≤ q) (s : ByteArray) : keepTo (wrD d q s).loose ((wrD d q s).sure, (wrD d q s).sm) (wrD d q s).loose.length = (fun r => if r = q then s else d.sure r, d.sm) := by
  have e : (wrD d q s).loose = [⟨q, s, 0⟩] := by show d.loose ++ _ = _; rw [h]; rfl
  rw [e]
  show keepTo [⟨q, s, 0⟩] (d.sure, d.sm) 1 = _
  simp only [keepTo, List.getElem?_cons_zero]
  unfold keepF keepM
  simp [show ¬ q = 0 by omega]

theorem DOk.read {d : DG} {N : Nat} (h : DOk d N) (q : Nat) : readD d q = d.sure q := by unfold readD; rw [h.fr q]; rfl

theorem DOk.ws {d : DG} {N : Nat} (h : DOk d N) (hN : N ≤ 900000) {q : Nat} (hq : 1 ≤ q) {s : ByteArray} (hs : s.size = 512) : DOk (wsD d q s) (N + 2) ∧ ∀ r, readD (wsD d q s) r = if r = q then s else readD d r := by
  have hk := wsD_keep h.no hq s
  have hsu : (wsD d q s).sure = fun r => if r = q then s else d.sure r := by show (keepTo _ _ _).1 = _; rw [hk]
  have h1 := h.calls
  have h2 := h.ns
  refine ⟨⟨h.up, h.np, ⟨fun x hx => ?_, fun r => ?_, ?_, h.ok.log, h.ok.sl⟩, rfl, fun _ => rfl, by show 0 ≤ 10; omega, ?_, ?_⟩, fun r => ?_⟩
  · cases hx
  · rw [hsu]
    show (if r = q then s else d.sure r).size = 512
    split
    · exact hs
    · exact h.ok.sure r
  · show (wrD d q s).nS + (wrD d q s).loose.length + 0 ≤ 1000000
    have : (wrD d q s).loose.length = 1 := by show (d.loose ++ _).length = 1; rw [h.no]; rfl
    rw [this]
    show d.nS + 1 + 0 ≤ 1000000
    omega
  · show d.calls + 1 + 1 ≤ N + 2
    omega
  · show (wrD d q s).nS + (wrD d q s).loose.length ≤ N + 2
    have : (wrD d q s).loose.length = 1 := by show (d.loose ++ _).length = 1; rw [h.no]; rfl
    rw [this]
    show d.nS + 1 ≤ N + 2
    omega
  · rw [h.read]
    show (Option.none : Option ByteArray).getD ((wsD d q s).sure r) = _
    rw [hsu]
    rfl

theorem wr_ok {d : DG} {N : Nat} (h : DOk d N) (hN : N ≤ 900000) {q : Nat} (hq : q < 4294967296) {s : ByteArray} (hs : s.size = 512) : (wrD d q s).ok := by
  have h2 := h.ns
  refine ⟨fun x hx => ?_, h.ok.sure, ?_, h.ok.log, h.ok.sl⟩
  · have hx' : x ∈ d.loose ++ [⟨q, s, 0⟩] := hx
    rw [h.no] at hx'
    simp at hx'
    subst hx'
    exact ⟨hq, by show s.size ≤ 512; omega, fun _ => hs⟩
  · show d.nS + (d.loose ++ _).length ≤ 1000000
    rw [h.no]
    show d.nS + 1 ≤ 1000000
    omega

set_option maxHeartbeats 800000 in
theorem writeSure_any {w : World} {p : Nat} {S A : Nat → Prop} {P : PG} {l : LG} {d : DG} {N : Nat} (hS : DevS w p S A P l d) (hd : DOk d N) (hN : N ≤ 900000) (q : Nat) (hq : q < 4294967296) (hc : checkE d.room q = 0) (s : ByteArray) (hs : s.size = 512) :
    Calls Tryz.prog 85 #[.pointer (some ⟨p, 0, none⟩), .int .u32 q, .string s] w fun e w' => e = .returned (.int .i64 0) ∧ ∃ A', DevS w' p S A' P l (wsD d q s) ∧ Moves A A' w w' := by
  obtain ⟨fb, pv, hC⟩ := hS.pcells
  have c0 := hC.c0
  clear hC
  obtain ⟨D, hD, _, hst⟩ := hS.disk
  have h1 := hd.calls
  have hln : d.loose.length = 0 := by rw [hd.no]; rfl
  have HW := hid (write_out hD hd.up hd.np ⟨by omega, by omega, by have := hd.nf; omega⟩ q hq hc s hs)
  go_enter Tryz.func85, Tryz.ntmps85
  go_wp2_with fail
  refine HW.out.mono ?_
  rintro e w1 ⟨rfl, D1, hD1, hm1⟩
  obtain ⟨A1, hS1, hmA1⟩ := hst w1 D1 _ hD1 hm1
  obtain ⟨fb1, pv1, hC1⟩ := hS1.pcells
  have c0' := hC1.c0
  obtain ⟨D1', hD1', _, hst1⟩ := hS1.disk
  have HY := hid (sync_out hD1' (show (wrD d q s).dead = false from hd.up) (show (wrD d q s).plan = [] from hd.np) (by show d.calls + 1 ≤ _; omega) (wr_ok hd hN hq hs))
  clear HW hD hst hD1 hm1 hC1 c0 hS
  go_wp2_with fail
  refine HY.out.mono ?_
  rintro e w2 ⟨rfl, D2, hD2, hm2⟩
  obtain ⟨A2, hS2, hmA2⟩ := hst1 w2 D2 _ hD2 hm2
  go_wp2
  go_ret
  exact ⟨rfl, A2, hS2, hmA1.trans hmA2⟩

/-- Is the place written first? -/
def placeB (d : DG) (n : Nat) : Bool := decide (readD d n ≠ readD d (n + 2048)) && chT n (readD d n) (readD d (n + 2048))
def ord1 (d : DG) (n : Nat) : Nat := if placeB d n = true then n else n + 2048
def ord2 (d : DG) (n : Nat) : Nat := if placeB d n = true then n + 2048 else n

set_option maxHeartbeats 1600000 in
set_option maxRecDepth 8000 in
theorem order_any {w : World} {p : Nat} {S A : Nat → Prop} {P : PG} {l : LG} {d : DG} (hS : DevS w p S A P l d) (hD : d.dead = false) (hs : ∀ q, (readD d q).size ≤ 1000000) (n : Nat) (hn : n ≤ 2048) (hc : checkE d.room n = 0) :
    Calls Tryz.prog 83 #[.pointer (some ⟨p, 0, none⟩), .int .u32 n] w fun e w' => e = .returned (.tuple #[.int .u32 (ord1 d n : Int), .int .u32 (ord2 d n : Int), .int .i64 0]) ∧ Below w.heap.size w w' := by
  obtain ⟨⟨fb, pv, M, hP⟩, ⟨L, DD, hL, hDD, _⟩, _, _, _⟩ := hS
  have hpl : p < w.heap.size := hP.lt p hP.sp
  have HR : Hid (Calls Tryz.prog 91 #[.pointer (some ⟨p, 0, none⟩), .int .u32 n] w fun x w' => x = .returned (.tuple #[.agg #[.string (readD d n), .string (readD d (n + 2048))], .int .i64 0]) ∧ Below w.heap.size w w') := pread_ok hP.cells.c0 hpl hDD hD n hn hc hs
  have HC : Hid (∀ W, Calls Tryz.prog 92 #[.agg #[.string (readD d n), .string (readD d (n + 2048))], .int .u32 n] W (ShOut W (chX n (readD d n) (readD d (n + 2048))) fun v => .returned (.tuple #[v, .bool (chT n (readD d n) (readD d (n + 2048))), .int .i64 (chE n (readD d n) (readD d (n + 2048)))]))) := fun W => choose_any n _ _ W (by omega) (by have := hs n; unfold maxLen; omega) (by have := hs (n + 2048); unfold maxLen; omega)
  have HT : Hid (∀ W, Calls Tryz.prog 112 #[.int .u32 n] W fun x w' => x = .returned (.int .u32 ((n + 2048 : Nat) : Int)) ∧ W = w') := fun W => (twinOf_any n W hn).mono fun x w' h => ⟨h.1, h.2.symm⟩
  have HB : Hid (placeB d n = (decide (readD d n ≠ readD d (n + 2048)) && chT n (readD d n) (readD d (n + 2048)))) := rfl
  have HO1 : Hid (ord1 d n = if placeB d n = true then n else n + 2048) := rfl
  have HO2 : Hid (ord2 d n = if placeB d n = true then n + 2048 else n) := rfl
  generalize ord1 d n = O1 at *
  generalize ord2 d n = O2 at *
  generalize placeB d n = B at *
  clear hs hc hD hDD hL hP
  generalize chX n (readD d n) (readD d (n + 2048)) = X at *
  generalize chT n (readD d n) (readD d (n + 2048)) = T at *
  generalize chE n (readD d n) (readD d (n + 2048)) = E at *
  generalize readD d n = s1 at *
  generalize readD d (n + 2048) = s2 at *
  by_cases hne : s1 = s2
  · subst hne
    have hB : B = false := by rw [HB.out]; simp
    have h1 : O1 = n + 2048 := by rw [HO1.out, hB]; rfl
    have h2 : O2 = n := by rw [HO2.out, hB]; rfl
    subst h1
    subst h2
    have hse := str_eq (rfl : s1 = s1)
    go_enter Tryz.func83, Tryz.ntmps83
    go_wp2_with fail
    refine HR.out.mono ?_
    rintro x w1 ⟨rfl, b1⟩
    go_wp2_with fail
    refine (HT.out _).mono ?_
    rintro x w2 ⟨rfl, rfl⟩
    go_wp2
    refine bodyPost_ret (v := .tuple #[.int .u32 ((O2 + 2048 : Nat) : Int), .int .u32 (O2 : Int), .int .i64 0]) (by simp [results, Tryz.results83, go_sem]) rfl ?_
    exact ⟨rfl, b1.alloc b1.size _⟩
  · have hsn := str_ne hne
    go_enter Tryz.func83, Tryz.ntmps83
    go_wp2_with fail
    refine HR.out.mono ?_
    rintro x w1 ⟨rfl, b1⟩
    go_wp2_with fail
    refine (HC.out _).mono ?_
    rintro x w2 ⟨a, c, rfl, hs2, b2⟩
    have bel2 : Below w.heap.size w w2 := (b1.alloc b1.size _).trans (b2.mono (by have := b1.size; simp; omega))
    have HXV : Hid (X.val a c = .agg #[.int .u32 X.num, .int .u64 X.lsn, .int .i64 X.kind, .string X.head, .slice a X.slots.length c]) := rfl
    rw [HXV.out]
    cases T
    · have hB : B = false := by rw [HB.out]; simp
      have h1 : O1 = n + 2048 := by rw [HO1.out, hB]; rfl
      have h2 : O2 = n := by rw [HO2.out, hB]; rfl
      subst h1
      subst h2
      go_wp2_with fail
      refine (HT.out _).mono ?_
      rintro x w3 ⟨rfl, rfl⟩
      go_wp2
      refine bodyPost_ret (v := .tuple #[.int .u32 ((O2 + 2048 : Nat) : Int), .int .u32 (O2 : Int), .int .i64 0]) (by simp [results, Tryz.results83, go_sem]) rfl ?_
      exact ⟨rfl, bel2.alloc bel2.size _⟩
    · have hB : B = true := by rw [HB.out]; simp [hne]
      have h1 : O1 = n := by rw [HO1.out, hB]; rfl
      have h2 : O2 = n + 2048 := by rw [HO2.out, hB]; rfl
      subst h2
      subst h1
      go_wp2_with fail
      refine (HT.out _).mono ?_
      rintro x w3 ⟨rfl, rfl⟩
      go_wp2
      refine bodyPost_ret (v := .tuple #[.int .u32 (O1 : Int), .int .u32 ((O1 + 2048 : Nat) : Int), .int .i64 0]) (by simp [results, Tryz.results83, go_sem]) rfl ?_
      exact ⟨rfl, bel2.alloc bel2.size _⟩

end Go.Proofs.YtgmfgkdecpldeaaGreat

namespace Go.Proofs.YtgmfgkdecpldeaaGreat
open Go.RowKit Go.Sort Go.Shelf
set_option linter.unusedVariables false
set_option linter.unusedSimpArgs false

/-- Does Flush flush? -/
def flB (l : LG) (up : Nat) : Bool := decide (l.flushed < l.bytes.length ∧ l.flushed + 1 ≤ up)
def flL (l : LG) (up : Nat) : LG := if flB l up = true then { l with flushed := l.bytes.length } else l
def flD (l : LG) (d : DG) (up : Nat) : DG := if flB l up = true then flushD l d else d

/-- A log and a disk that stand well to one another. -/
structure LOk (l : LG) (d : DG) : Prop where
  half : l.half = false
  fl : l.flushed ≤ l.bytes.length
  most : l.bytes.length ≤ 4194304
  at' : d.log.length = l.flushed

theorem LOk.fl' {l : LG} {d : DG} (h : LOk l d) (up : Nat) : LOk (flL l up) (flD l d up) := by
  unfold flL flD
  split
  · refine ⟨h.half, Nat.le_refl _, h.most, ?_⟩
    show (d.log ++ (ByteArray.mk (l.bytes.drop l.flushed).toArray).data.toList).length = l.bytes.length
    have := h.at'
    have := h.fl
    simp
    omega
  · exact h

theorem DOk.mono {d : DG} {N N' : Nat} (h : DOk d N) (k : N ≤ N') : DOk d N' := ⟨h.up, h.np, h.ok, h.no, h.fr, h.nf, Nat.le_trans h.calls k, Nat.le_trans h.ns k⟩

theorem DOk.fl {l : LG} {d : DG} {N : Nat} (h : DOk d N) (hl : LOk l d) (up : Nat) : DOk (flD l d up) (N + 2) ∧ (∀ q, readD (flD l d up) q = readD d q) ∧ (flD l d up).room = d.room := by
  unfold flD
  split
  · have h1 := h.calls
    have h2 := h.ns
    have h3 := hl.at'
    have h4 := hl.fl
    have h5 := hl.most
    have hlen : (flushD l d).log.length = l.bytes.length := by
      show (d.log ++ (ByteArray.mk (l.bytes.drop l.flushed).toArray).data.toList).length = l.bytes.length
      simp
      omega
    refine ⟨⟨h.up, h.np, ⟨h.ok.loose, h.ok.sure, h.ok.n, by rw [hlen]; exact h5, Nat.le_refl _⟩, h.no, h.fr, h.nf, ?_, ?_⟩, fun q => rfl, rfl⟩
    · show d.calls + 1 + 1 ≤ N + 2
      omega
    · show d.nS ≤ N + 2
      omega
  · exact ⟨h.mono (by omega), fun q => rfl, rfl⟩

theorem sys_flush {w : World} {p : Nat} {S A : Nat → Prop} {P : PG} {l : LG} {d : DG} {N : Nat} (hS : DevS w p S A P l d) (hd : DOk d N) (hN : N ≤ 90000) (hl : LOk l d) (up : Nat) :
    Calls Tryz.prog 84 #[.pointer (some ⟨P.lp, 0, none⟩), .int .u64 up] w fun e w' => e = .returned (.int .i64 0) ∧ ∃ A', DevS w' p S A' P (flL l up) (flD l d up) ∧ Moves A A' w w' := by
  by_cases hb : l.flushed < l.bytes.length ∧ l.flushed + 1 ≤ up
  · have hB : flB l up = true := decide_eq_true hb
    unfold flL flD
    rw [if_pos hB, if_pos hB]
    have hS' := hS
    obtain ⟨hP, ⟨L, D, hL, hD, g6, g7⟩, sb, g8, g9⟩ := hS
    have hD' : IsDisk w l.dp D d := by rw [g8]; exact hD
    have h1 := hd.calls
    refine (flush_out hL hD' g6 hl.half hb.1 hl.most hd.up hd.np (by omega) hl.at' up hb.2).mono ?_
    rintro e w' ⟨rfl, D', hL', hD2, k1, k2, k3⟩
    have hm' : Moves A (fun k => L k ∨ D' k) w w' := ⟨k3.mono fun k x => g7 k x, by
      rintro k (x | x)
      · exact .inl (g7 k (.inl x))
      · rcases k2 k x with z | z
        · exact .inl (g7 k (.inr z))
        · exact .inr z⟩
    refine ⟨rfl, fun k => L k ∨ D' k, ⟨hP.same (hS'.still hm') k3.size, ⟨L, D', hL', by rw [← g8]; exact hD2, k1, fun _ x => x⟩, fun k x => (hm'.off (hP.lt x) (sb k x)).2, g8, ?_⟩, hm'⟩
    rintro k (x | x)
    · exact hL'.lt x
    · exact hD2.lt x
  · have hB : ¬ flB l up = true := by unfold flB; simpa using hb
    unfold flL flD
    rw [if_neg hB, if_neg hB]
    have hS' := hS
    obtain ⟨L, hL, _⟩ := hS.log
    have h4 := hl.fl
    refine (flush_none hL hl.fl hl.most up (by omega)).mono ?_
    rintro e w' ⟨rfl, b⟩
    exact ⟨rfl, A, hS'.below b, Moves.of_kept (Kept.of_below b)⟩

/-- The disk behind writeOut. -/
def outD (l : LG) (d : DG) (X : SheetV) : DG := wsD (wsD (flD l d X.lsn) (ord1 d X.num) (encS X)) (ord2 d X.num) (encS X)

theorem ord_check {d : DG} {n : Nat} (hn : n ≤ 2048) (hc : checkE d.room n = 0) : checkE d.room (ord1 d n) = 0 ∧ checkE d.room (ord2 d n) = 0 := by
  unfold ord1 ord2
  have := check_twin hn hc
  split
  · exact ⟨hc, this⟩
  · exact ⟨this, hc⟩

theorem ord_range {d : DG} {n : Nat} (h1 : 1 ≤ n) (hn : n ≤ 2048) : (1 ≤ ord1 d n ∧ ord1 d n ≤ 4096) ∧ (1 ≤ ord2 d n ∧ ord2 d n ≤ 4096) := by
  unfold ord1 ord2
  split <;> omega

set_option maxHeartbeats 1600000 in
set_option maxRecDepth 8000 in
theorem writeOut_any {w : World} {p : Nat} {S A : Nat → Prop} {P : PG} {l : LG} {d : DG} {N : Nat} (hS : DevS w p S A P l d) (hd : DOk d N) (hN : N ≤ 80000) (hl : LOk l d) (X : SheetV) (a : Option Addr) (c : Nat) (hF : X.Fits) (hm : StrsAt w a X.slots) (h1 : 1 ≤ X.num) (h2 : X.num ≤ 2048) (hc : checkE d.room X.num = 0) :
    Calls Tryz.prog 50 #[.pointer (some ⟨p, 0, none⟩), X.val a c] w fun e w' => e = .returned (.int .i64 0) ∧ ∃ A', DevS w' p S A' P (flL l X.lsn) (outD l d X) ∧ Moves A A' w w' := by
  have hok := hF.ok hm
  have hE0 := (encE_fits hok).2 hF
  have h512 : (encS X).size = 512 := by unfold encS; rw [if_pos hE0]; exact enc_size X hF
  have HEN : Hid (∀ W, Below w.heap.size w W → Calls Tryz.prog 47 #[X.val a c] W fun e w' => e = .returned (.tuple #[.string (encS X), .int .i64 0]) ∧ Below W.heap.size W w') := fun W hb => by
    have := encode_any X a c W (hok.below hb)
    rw [hE0] at this
    exact this
  have hsz : ∀ q, (readD d q).size ≤ 1000000 := fun q => by rw [hd.read]; have := hd.ok.sure q; omega
  obtain ⟨hfd, hfr, hfroom⟩ := hd.fl hl X.lsn
  obtain ⟨oc1, oc2⟩ := ord_check h2 hc
  obtain ⟨or1, or2⟩ := ord_range (d := d) h1 h2
  have HOD : Hid (outD l d X = wsD (wsD (flD l d X.lsn) (ord1 d X.num) (encS X)) (ord2 d X.num) (encS X)) := rfl
  have HORD : Hid (∀ W, DevS W p S A P l d → Calls Tryz.prog 83 #[.pointer (some ⟨p, 0, none⟩), .int .u32 X.num] W fun e w' => e = .returned (.tuple #[.int .u32 (ord1 d X.num : Int), .int .u32 (ord2 d X.num : Int), .int .i64 0]) ∧ Below W.heap.size W w') := fun W h => order_any h hd.up hsz X.num h2 hc
  have HFL : Hid (∀ W, DevS W p S A P l d → Calls Tryz.prog 84 #[.pointer (some ⟨P.lp, 0, none⟩), .int .u64 X.lsn] W fun e w' => e = .returned (.int .i64 0) ∧ ∃ A', DevS w' p S A' P (flL l X.lsn) (flD l d X.lsn) ∧ Moves A A' W w') := fun W h => sys_flush h hd (by omega) hl X.lsn
  have HWS1 : Hid (∀ W A', DevS W p S A' P (flL l X.lsn) (flD l d X.lsn) → Calls Tryz.prog 85 #[.pointer (some ⟨p, 0, none⟩), .int .u32 (ord1 d X.num : Int), .string (encS X)] W fun e w' => e = .returned (.int .i64 0) ∧ ∃ A'', DevS w' p S A'' P (flL l X.lsn) (wsD (flD l d X.lsn) (ord1 d X.num) (encS X)) ∧ Moves A' A'' W w') := fun W A' h => writeSure_any h hfd (by omega) _ (by omega) (by rw [hfroom]; exact oc1) _ h512
  have HWS2 : Hid (∀ W A', DevS W p S A' P (flL l X.lsn) (wsD (flD l d X.lsn) (ord1 d X.num) (encS X)) → Calls Tryz.prog 85 #[.pointer (some ⟨p, 0, none⟩), .int .u32 (ord2 d X.num : Int), .string (encS X)] W fun e w' => e = .returned (.int .i64 0) ∧ ∃ A'', DevS w' p S A'' P (flL l X.lsn) (outD l d X) ∧ Moves A' A'' W w') := fun W A' h => writeSure_any h (hfd.ws (by omega) (by omega) h512).1 (by omega) _ (by omega) (by show checkE (flD l d X.lsn).room _ = 0; rw [hfroom]; exact oc2) _ h512
  have HV : Hid (X.val a c = .agg #[.int .u32 X.num, .int .u64 X.lsn, .int .i64 X.kind, .string X.head, .slice a X.slots.length c]) := rfl
  have HSS := hid hS
  generalize ord1 d X.num = O1 at *
  generalize ord2 d X.num = O2 at *
  generalize encS X = ES at *
  generalize outD l d X = OD at *
  generalize wsD (flD l d X.lsn) O1 ES = D1 at *
  generalize flD l d X.lsn = D0 at *
  generalize flL l X.lsn = L0 at *
  rw [HV.out] at HEN ⊢
  clear hok hE0 hsz hfd hfr hfroom oc1 oc2 or1 or2 hd hl hc hm hS HOD
  obtain ⟨W0, HW0⟩ : ∃ W0, Hid (W0 = w.alloc (.cells #[.int .u32 X.num, .int .u64 X.lsn, .int .i64 X.kind, .string X.head, .slice a X.slots.length c] 56)) := ⟨_, rfl⟩
  have b0 : Below w.heap.size w W0 := by rw [HW0.out]; exact (Below.refl _ _).alloc (Nat.le_refl _) _
  have kx : Blk W0 w.heap.size (X.arr a c) 56 := by rw [HW0.out]; exact Blk.made w _ _
  have x0 : W0.cell? ⟨w.heap.size, 0, none⟩ = some (.int .u32 X.num) := kx.cell 0
  have x1 : W0.cell? ⟨w.heap.size, 1, none⟩ = some (.int .u64 X.lsn) := kx.cell 1
  have x2 : W0.cell? ⟨w.heap.size, 2, none⟩ = some (.int .i64 X.kind) := kx.cell 2
  have x3 : W0.cell? ⟨w.heap.size, 3, none⟩ = some (.string X.head) := kx.cell 3
  have x4 : W0.cell? ⟨w.heap.size, 4, none⟩ = some (.slice a X.slots.length c) := kx.cell 4
  have nx : ¬ A w.heap.size := fun x => by have := HSS.out.lt _ x; omega
  go_enter Tryz.func50, Tryz.ntmps50
  go_wp2_with fail
  rw [← HW0.out]
  refine (HEN.out _ b0).mono ?_
  rintro x w1 ⟨rfl, b1⟩
  have kx1 := kx.same (b1.block _ kx.lt)
  have bel1 := below_chain b0 b1
  clear x0 x1 x2 x3 x4 HW0
  have x0 : w1.cell? ⟨w.heap.size, 0, none⟩ = some (.int .u32 X.num) := kx1.cell 0
  go_wp2_with fail
  refine (HORD.out _ (HSS.out.below bel1)).mono ?_
  rintro x w2 ⟨rfl, b2⟩
  have kx2 := kx1.same (b2.block _ kx1.lt)
  have bel2 := below_chain bel1 b2
  have hS2 := HSS.out.below bel2
  obtain ⟨fb, pv, hC2⟩ := hS2.pcells
  have c1 : w2.cell? ⟨p, 1, none⟩ = some (.pointer (some ⟨P.lp, 0, none⟩)) := hC2.c1
  have x1 : w2.cell? ⟨w.heap.size, 1, none⟩ = some (.int .u64 X.lsn) := kx2.cell 1
  have hxl : w.heap.size < w2.heap.size := kx2.lt
  clear x0 kx kx1 b1 b2 b0 bel1 hC2
  have HF1 := hid (HFL.out w2.drew (hS2.drewN 1))
  go_upto_region 7 with fail
  go_region_held3 (fun w' => w'.cell? ⟨p, 1, none⟩ = some (.pointer (some ⟨P.lp, 0, none⟩)) ∧ w'.cell? ⟨w.heap.size, 1, none⟩ = some (.int .u64 X.lsn)) (first | go_keep | exact ⟨c1, x1⟩ | exact hkeep3)
    (first | (go_at_call 84; refine HF1.out.mono ?_; rintro x w3 ⟨rfl, A3, hS3, hm3⟩; have hkeep3 : w3.cell? ⟨p, 1, none⟩ = some (.pointer (some ⟨P.lp, 0, none⟩)) ∧ w3.cell? ⟨w.heap.size, 1, none⟩ = some (.int .u64 X.lsn) := ⟨by obtain ⟨_, _, hC⟩ := hS3.pcells; exact hC.c1, (World.cell?_of_block (w := w2.drew) (a := ⟨w.heap.size, 1, none⟩) (hm3.off hxl nx).1).trans x1⟩))
  go_wp2_with fail
  refine (HWS1.out w3 A3 hS3).mono ?_
  rintro x w4 ⟨rfl, A4, hS4, hm4⟩
  go_wp2_with fail
  refine (HWS2.out w4 A4 hS4).mono ?_
  rintro x w5 ⟨rfl, A5, hS5, hm5⟩
  go_wp2
  go_ret
  exact ⟨rfl, A5, hS5, (((Moves.of_kept (Kept.of_below bel2)).trans hm3.undrew).trans hm4).trans hm5⟩

end Go.Proofs.YtgmfgkdecpldeaaGreat

namespace Go.Proofs.YtgmfgkdecpldeaaGreat
open Go.RowKit Go.Sort Go.Shelf
set_option linter.unusedVariables false
set_option linter.unusedSimpArgs false

/-- A frame is put again, its texts where they were. -/
theorem DevS.reFr {W : World} {p : Nat} {S B : Nat → Prop} {P : PG} {l : LG} {d : DG} (h : DevS W p S B P l d) {n : Nat} (h1 : 1 ≤ n) (h2 : n ≤ 2048) {f : FrV} (hf : P.F n = some f) (fa : Option Addr) (fc sn : Nat) (hS : StrsIn S W fa f.sh.slots) (hsn : sn < 18446744073709551616) (hz : P.z ≤ 1000000) :
    ∃ (fb : Nat) (u : World → World), W.cell? ⟨p, 3, none⟩ = some (.map (some fb)) ∧ (Instr.mapUpdate 110 (.map (some fb)) (.int .u32 n) (.agg (frArr ⟨f.sh, sn⟩ fa fc))).run Tryz.prog W.drew = .ok () (u W.drew) ∧
      DevS (u W.drew) p S B { P with F := setFr P.F n ⟨f.sh, sn⟩ } l d ∧ Kept (fun k => k = fb) W (u W.drew) ∧ S fb := by
  obtain ⟨⟨fb, pv, M, hP⟩, ⟨L, D, hL, hD, g6, g7⟩, sb, g8, g9⟩ := h
  obtain ⟨u, hu⟩ := put_ex 54 110 108 fb (.int .u32 n) (.agg (frArr ⟨f.sh, sn⟩ fa fc))
  obtain ⟨hrun, hM, ht⟩ := hu W.drew P.z M (keyL n) (hP.map.same rfl) pageKeyed Tryz.underlying110 hz (keyL_key (by omega))
  have hk : Kept (fun k => k = fb) W.drew (u W.drew) := mapTurned_kept ht rfl
  have hk' : Kept (fun k => k = fb) W (u W.drew) := ⟨hk.os, hk.tape, hk.output, hk.size, hk.block⟩
  have hkb : ∀ k, k < W.heap.size → k ≠ fb → (u W.drew).heap[k]? = W.heap[k]? := fun k hk' hne => hk.block k hk' hne
  have hsz : W.heap.size ≤ (u W.drew).heap.size := hk.size
  have hI : Maps.IsMap M := (hP.map.tidy pageKeyed).isMap
  have hyes := hP.frs.yes n f (by omega) hf
  have hzz : Maps.size (M.put (keyL n) (.held (.agg (frArr ⟨f.sh, sn⟩ fa fc)))) = P.z := by
    rw [Maps.size_put (hP.map.tidy pageKeyed), hP.map.2, hyes.1]
    rfl
  rw [hzz] at hM
  have hfr : FrAt S (u W.drew) n (.agg (frArr ⟨f.sh, sn⟩ fa fc)) ⟨f.sh, sn⟩ :=
    ⟨⟨_, _, rfl, hS.turn hP.map.isMap (fun k hk' hne => hkb k (hP.lt k hk') hne) hsz fun k x => x⟩, hyes.2.fits, hyes.2.num, hsn⟩
  have hF1 : FrsAt S (u W.drew) M P.F := hP.frs.turn hP.map.isMap (fun k hk' hne => hkb k (hP.lt k hk') hne) hsz fun k x => x
  have hP' := hP.turn (S' := S) (fun k hk' hne => hkb k (hP.lt k hk') hne) hsz (fun k x => x) (fun k x => Nat.lt_of_lt_of_le (hP.lt k x) hsz) hM (hF1.put hI h1 h2 hfr)
  have nf : ∀ k, B k → k ≠ fb := fun k hk' e => sb fb hP.sf (e ▸ hk')
  exact ⟨fb, u, hP.cells.c3, hrun, ⟨⟨fb, pv, _, hP'⟩, ⟨L, D, hL.same (fun k x => hkb k (hL.lt x) (nf k (g7 k (.inl x)))) hsz, hD.same (fun k x => hkb k (hD.lt x) (nf k (g7 k (.inr x)))) hsz, g6, g7⟩, sb, g8, fun k x => Nat.lt_of_lt_of_le (g9 k x) hsz⟩, hk', hP.sf⟩

/-- A cell of the pool is written. -/
theorem DevS.cell {W : World} {p : Nat} {S B : Nat → Prop} {P P' : PG} {l : LG} {d : DG} (h : DevS W p S B P l d) (i : Nat) (v : Value) (e : ∀ fb pv, (pvals fb pv P).setIfInBounds i v = pvals fb pv P') (e1 : P'.F = P.F) (e2 : P'.z = P.z) (e3 : P'.picks = P.picks) (e4 : P'.dp = P.dp) (e5 : P'.lp = P.lp) : DevS (W.setCell ⟨p, i, none⟩ v) p S B P' l d ∧ S p := by
  obtain ⟨⟨fb, pv, M, hP⟩, ⟨L, D, hL, hD, g6, g7⟩, sb, g8, g9⟩ := h
  have k : ∀ b, b ≠ p → (W.setCell ⟨p, i, none⟩ v).heap[b]? = W.heap[b]? := fun b hb => Below.heap_setCell _ _ _ _ hb
  have np : ∀ b, B b → b ≠ p := fun b hb e => sb p hP.sp (e ▸ hb)
  exact ⟨⟨⟨fb, pv, M, hP.cell i v (e fb pv) e1 e2 e3⟩, ⟨L, D, by rw [e5]; exact hL.same (fun b hb => k b (np b (g7 b (.inl hb)))) (by simp), by rw [e4]; exact hD.same (fun b hb => k b (np b (g7 b (.inr hb)))) (by simp), g6, g7⟩, sb, g8.trans e4.symm, fun b hb => by simpa using g9 b hb⟩, hP.sp⟩

set_option maxHeartbeats 800000 in
theorem write_clean {w : World} {p : Nat} {A : Nat → Prop} {P : PG} {l : LG} {d : DG} (hS : Sys w p A P l d) (n : Nat) (hn : n < 4294967296) (h : oldS P n = 0) :
    Calls Tryz.prog 16 #[.pointer (some ⟨p, 0, none⟩), .int .u32 n] w fun e w' => e = .returned (.int .i64 0) ∧ Below w.heap.size w w' := by
  obtain ⟨fb, pv, M, S, hP⟩ := hS.poolAt
  obtain ⟨g, ga, gc, hlook, hold, h64, _⟩ := hP.since hn
  have k1 := hlook w (Below.refl _ _)
  have c3 := hP.cells.c3
  have hs : (g.since : Int) = 0 := by omega
  clear hlook hold hP
  go_enter Tryz.func16, Tryz.ntmps16
  go_wp2
  go_ret
  exact ⟨rfl, (Below.refl _ _).alloc (Nat.le_refl _) _⟩

/-- A dirty page was written. -/
def wrP (P : PG) (n : Nat) (f : FrV) : PG := { P with F := setFr P.F n ⟨f.sh, 0⟩, written := P.written + 1 }

set_option maxHeartbeats 1600000 in
set_option maxRecDepth 8000 in
theorem write_dirty {w : World} {p : Nat} {S B : Nat → Prop} {P : PG} {l : LG} {d : DG} {N : Nat} (hS : DevS w p S B P l d) (hd : DOk d N) (hN : N ≤ 80000) (hl : LOk l d) (n : Nat) (h1 : 1 ≤ n) (h2 : n ≤ 2048) {f : FrV} (hf : P.F n = some f) (hs : f.since ≠ 0) (hc : checkE d.room n = 0) (hz : P.z ≤ 1000000) (hw : P.written ≤ 1000000) :
    Calls Tryz.prog 16 #[.pointer (some ⟨p, 0, none⟩), .int .u32 n] w fun e w' => e = .returned (.int .i64 0) ∧ ∃ B', DevS w' p S B' (wrP P n f) (flL l f.sh.lsn) (outD l d f.sh) ∧ Moves (fun k => S k ∨ B k) (fun k => S k ∨ B' k) w w' := by
  have HS := hid hS
  obtain ⟨fb, pv, M, hP⟩ := hS.pool
  obtain ⟨g, ga, gc, hlook, hold, h64, hyes⟩ := hP.since (n := n) (by omega)
  obtain ⟨rfl, hst⟩ := hyes f hf
  have hfr := (hP.frs.yes n g (by omega) hf).2
  have hfit := hfr.fits
  have hnum := hfr.num
  have k1 := hlook w (Below.refl _ _)
  have c3 := hP.cells.c3
  have hpl := hP.lt p hP.sp
  have hs' : ¬ (g.since : Int) = 0 := by omega
  have nS : ∀ k, w.heap.size ≤ k → ¬ S k ∧ ¬ B k := fun k hk => ⟨fun x => by have := hS.pool.lt x; omega, fun x => by have := hS.lt k x; omega⟩
  obtain ⟨W0, HW0⟩ : ∃ W0, Hid (W0 = w.alloc (.cells #[.int .u32 g.sh.num, .int .u64 g.sh.lsn, .int .i64 g.sh.kind, .string g.sh.head, .slice ga g.sh.slots.length gc, .int .u64 g.since] 108)) := ⟨_, rfl⟩
  have b0 : Below w.heap.size w W0 := by rw [HW0.out]; exact (Below.refl _ _).alloc (Nat.le_refl _) _
  have kf : Blk W0 w.heap.size (frArr g ga gc) 108 := by rw [HW0.out]; exact Blk.made w _ _
  have hS0 := hS.below b0
  have hst0 := hst.same (w' := W0) (fun k hk => b0.block k (hS.pool.lt hk)) b0.size
  have HWO := hid (writeOut_any hS0 hd hN hl g.sh ga gc hfit hst0.at (by omega) (by omega) (by rw [hnum]; exact hc))
  have HV : Hid (g.sh.val ga gc = .agg #[.int .u32 g.sh.num, .int .u64 g.sh.lsn, .int .i64 g.sh.kind, .string g.sh.head, .slice ga g.sh.slots.length gc]) := rfl
  rw [HV.out] at HWO
  have y0 : W0.cell? ⟨w.heap.size, 0, none⟩ = some (.int .u32 g.sh.num) := kf.cell 0
  have y1 : W0.cell? ⟨w.heap.size, 1, none⟩ = some (.int .u64 g.sh.lsn) := kf.cell 1
  have y2 : W0.cell? ⟨w.heap.size, 2, none⟩ = some (.int .i64 g.sh.kind) := kf.cell 2
  have y3 : W0.cell? ⟨w.heap.size, 3, none⟩ = some (.string g.sh.head) := kf.cell 3
  have y4 : W0.cell? ⟨w.heap.size, 4, none⟩ = some (.slice ga g.sh.slots.length gc) := kf.cell 4
  have y5 : W0.cell? ⟨w.heap.size, 5, none⟩ = some (.int .u64 g.since) := kf.cell 5
  generalize flL l g.sh.lsn = L0 at *
  generalize outD l d g.sh = D0 at *
  have HF := hid hf
  have HNUM := hid hnum
  clear hP hlook hold hfr hS hd hl hf hnum hyes
  go_enter Tryz.func16, Tryz.ntmps16
  go_upto_region 4 with fail
  rw [← HW0.out]
  go_wp2_with fail
  refine HWO.out.mono ?_
  rintro e w1 ⟨rfl, B1, hS1, hm1⟩
  have m1 := hm1.off (r := w.heap.size) kf.lt (nS _ (Nat.le_refl _)).2
  have kf1 := kf.same m1.1
  have hst1 := hst0.same (w' := w1) (hS0.still hm1) hm1.1.size
  obtain ⟨W2, HW2⟩ : ∃ W2, Hid (W2 = w1.setCell ⟨w.heap.size, 5, none⟩ (.int .u64 0)) := ⟨_, rfl⟩
  have k2 : ∀ k, k ≠ w.heap.size → W2.heap[k]? = w1.heap[k]? := fun k hk => by rw [HW2.out]; exact Below.heap_setCell _ _ _ _ hk
  have s2 : w1.heap.size = W2.heap.size := by rw [HW2.out]; simp
  have hSx : ∀ k, S k → k ≠ w.heap.size := fun k x e => (nS k (by omega)).1 x
  have hBx : ∀ k, B1 k → k ≠ w.heap.size := fun k x e => m1.2 (e ▸ x)
  have hS2 := hS1.same (w' := W2) (fun k x => k2 k (hSx k x)) (fun k x => k2 k (hBx k x)) (by omega)
  have hst2 := hst1.same (w' := W2) (fun k x => k2 k (hSx k x)) (by omega)
  have kf2 : Blk W2 w.heap.size (frArr ⟨g.sh, 0⟩ ga gc) 108 := by rw [HW2.out]; exact kf1.set 5 _
  obtain ⟨fb2, u, hc3, hrun, hS3, hk3, hfb⟩ := hS2.reFr h1 h2 HF.out ga gc 0 hst2 (by omega) hz
  have z0 : W2.cell? ⟨w.heap.size, 0, none⟩ = some (.int .u32 g.sh.num) := kf2.cell 0
  have z1 : W2.cell? ⟨w.heap.size, 1, none⟩ = some (.int .u64 g.sh.lsn) := kf2.cell 1
  have z2 : W2.cell? ⟨w.heap.size, 2, none⟩ = some (.int .i64 g.sh.kind) := kf2.cell 2
  have z3 : W2.cell? ⟨w.heap.size, 3, none⟩ = some (.string g.sh.head) := kf2.cell 3
  have z4 : W2.cell? ⟨w.heap.size, 4, none⟩ = some (.slice ga g.sh.slots.length gc) := kf2.cell 4
  have z5 : W2.cell? ⟨w.heap.size, 5, none⟩ = some (.int .u64 0) := kf2.cell 5
  unfold frArr at hrun
  simp only at hrun
  rw [show ((0 : Nat) : Int) = 0 from rfl] at hrun
  obtain ⟨w3, HW3⟩ : ∃ w3, Hid (w3 = u W2.drew) := ⟨_, rfl⟩
  rw [← HW3.out] at hS3 hk3 hrun
  have hc6 : w3.cell? ⟨p, 6, none⟩ = some (.int .i64 P.written) := by
    obtain ⟨_, _, hC⟩ := hS3.pcells
    exact hC.c6
  have hf6 : w3.frozen? ⟨p, 6, none⟩ = false := by
    obtain ⟨_, _, hC⟩ := hS3.pcells
    exact hC.fr 6
  have hcl := hS3.cell (P' := wrP P n g) 6 (.int .i64 ((P.written + 1 : Nat) : Int)) (fun fb pv => by unfold wrP pvals; rfl) rfl rfl rfl rfl rfl
  obtain ⟨hS4, hSp⟩ := hcl
  have hin : ((P.written + 1 : Nat) : Int) = (P.written : Int) + 1 := by omega
  rw [hin] at hS4
  have f5 := kf1.frozen 5
  have w5 : w1.cell? ⟨w.heap.size, 5, none⟩ = some (.int .u64 g.since) := kf1.cell 5
  have HS4 := hid hS4
  have HK4 : Hid (Kept (fun k => k = w.heap.size ∨ S k) w1 (w3.setCell ⟨p, 6, none⟩ (.int .i64 ((P.written : Int) + 1)))) := by
    have a1 : Kept (fun k => k = w.heap.size ∨ S k) w1 W2 := by rw [HW2.out]; exact Kept.setCell _ _ _ _ _ (.inl rfl)
    exact (a1.trans (hk3.mono fun k e => by subst e; exact .inr hfb)).trans (Kept.setCell _ _ _ _ _ (.inr hSp))
  have HM1 := hid hm1
  clear y0 y1 y2 y3 y4 y5 hS1 hS2 hS3 hS4 hm1 HWO hS0 hst0 hst1 hst2 kf kf1 kf2 hin HW0
  go_upto_region 10 with fail
  rw [← HW2.out]
  clear f5 w5
  go_region
  go_wp2
  go_ret
  refine ⟨rfl, B1, HS4.out, ?_⟩
  have hm := HM1.out
  have hk := HK4.out
  refine ⟨⟨hk.os.trans (hm.1.os.trans b0.os), hk.tape.trans (hm.1.tape.trans b0.tape), hk.output.trans (hm.1.output.trans b0.output), Nat.le_trans b0.size (Nat.le_trans hm.1.size hk.size), fun k hk1 hk2 => ?_⟩, ?_⟩
  · have e1 := b0.block k hk1
    have e2 := hm.off (r := k) (by have := b0.size; omega) fun x => hk2 (.inr x)
    refine (hk.block k (by have := b0.size; have := hm.1.size; omega) ?_).trans (e2.1.trans e1)
    rintro (x | x)
    · omega
    · exact hk2 (.inl x)
  · rintro k (x | x)
    · exact .inl (.inl x)
    · rcases hm.2 k x with y | y
      · exact .inl (.inr y)
      · exact .inr (by have := b0.size; omega)

end Go.Proofs.YtgmfgkdecpldeaaGreat

namespace Go.Proofs.YtgmfgkdecpldeaaGreat
open Go.RowKit Go.Sort Go.Shelf
set_option linter.unusedVariables false
set_option linter.unusedSimpArgs false

/-- The page that leaves: the least one. -/
structure IsVic (P : PG) (n : Nat) : Prop where
  lo : 1 ≤ n
  hi : n ≤ 2048
  here : P.F n ≠ none
  least : ∀ m, m < 4294967296 → P.F m ≠ none → n ≤ m

set_option maxHeartbeats 800000 in
theorem leaver_none {w : World} {p fb : Nat} {pv : Value} {M : DataW Value} {S : Nat → Prop} {P : PG} (h : PoolAt w p fb pv M S P) (hz : P.z ≤ 12) (hpk : P.picks = []) {n : Nat} (hv : IsVic P n) :
    Calls Tryz.prog 82 #[.pointer (some ⟨p, 0, none⟩)] w fun e w' => e = .returned (.int .u32 n) ∧ Below w.heap.size w w' := by
  have HN := hid (numbers_any h hz)
  obtain ⟨pa, pc, hpv, _⟩ := h.picks
  rw [hpk] at hpv
  have hpv' : pv = .slice pa 0 pc := hpv
  have c4 := h.cells.c4
  rw [hpv'] at c4
  have hpl := h.lt p h.sp
  clear h hpv hpv'
  go_enter Tryz.func82, Tryz.ntmps82
  go_wp2_with fail
  refine HN.out.mono ?_
  rintro e w1 ⟨v, NL, rfl, hpg, hn, b1⟩
  have hmem : n ∈ NL := (hn.mem n (by have := hv.hi; omega)).2 hv.here
  obtain ⟨m, NL', rfl⟩ : ∃ m NL', NL = m :: NL' := by
    cases NL with
    | nil => simp at hmem
    | cons a L => exact ⟨a, L, rfl⟩
  have hm : m = n := by
    have h1 : n ≤ m := hv.least m (by have := hn.rng m (by simp); omega) ((hn.mem m (by have := hn.rng m (by simp); omega)).1 (by simp))
    have h2 : m ≤ n := by
      rcases List.mem_cons.1 hmem with e | e
      · omega
      · have := hn.up
        unfold Rises at this
        rw [List.pairwise_cons] at this
        exact this.1 n e
    omega
  subst hm
  rcases hpg.2 with ⟨e, e1⟩ | ⟨g, cap, cur, e, h0, hb, hcap, hmx, hsz, ht⟩
  · simp at e1
  · have hcell : w1.cell? ⟨g, 0, none⟩ = some (.int .u32 m) := by
      have := (pgRow_of hb ht).2 0 (by simp)
      rw [this.1]
      simp [Array.getD]
    subst e
    have hL1 : (m :: NL').length = NL'.length + 1 := rfl
    have c4' : w1.cell? ⟨p, 4, none⟩ = some (.slice pa 0 pc) := (b1.cell (p := ⟨p, 4, none⟩) hpl).trans c4
    have hcap' : NL'.length + 1 ≤ cap := hcap
    have hmx' : cap ≤ 9223372036854775807 := by unfold maxLen at hmx; omega
    have hl12 : NL'.length + 1 ≤ 12 := by have := hn.len; rw [hL1] at this; omega
    rw [hL1]
    clear hpg hn hb ht hsz hcap hmx hmem HN hL1 c4
    go_wp2
    go_ret
    exact ⟨rfl, b1⟩

/-- A frame is taken out. -/
theorem DevS.delFr' {W : World} {p : Nat} {S B : Nat → Prop} {P : PG} {l : LG} {d : DG} (h : DevS W p S B P l d) {n : Nat} (hn : n < 4294967296) (hf : P.F n ≠ none) :
    ∃ (fb : Nat) (u : World → World), W.cell? ⟨p, 3, none⟩ = some (.map (some fb)) ∧ (Builtin.delete_ #[110, 54] 0 #[.map (some fb), .int .u32 n]).run Tryz.prog W = .ok (.tuple #[]) (u W) ∧
      DevS (u W) p S B { P with F := delFr P.F n, z := P.z - 1 } l d ∧ Kept (fun k => k = fb) W (u W) ∧ S fb := by
  obtain ⟨⟨fb, pv, M, hP⟩, ⟨L, D, hL, hD, g6, g7⟩, sb, g8, g9⟩ := h
  obtain ⟨u, hu⟩ := del_ex 54 110 108 fb (.int .u32 n) 0
  obtain ⟨hrun, hM, ht⟩ := hu W P.z M (keyL n) hP.map pageKeyed Tryz.underlying110 (keyL_key hn)
  have hk : Kept (fun k => k = fb) W (u W) := mapTurned_kept ht rfl
  have hkb : ∀ k, k < W.heap.size → k ≠ fb → (u W).heap[k]? = W.heap[k]? := fun k hk' hne => hk.block k hk' hne
  have hsz : W.heap.size ≤ (u W).heap.size := hk.size
  obtain ⟨f, hff⟩ : ∃ f, P.F n = some f := by
    cases e : P.F n with
    | none => exact absurd e hf
    | some f => exact ⟨f, rfl⟩
  have hzz : Maps.size (M.del (keyL n)) = P.z - 1 := by
    have := Maps.size_del (k := keyL n) (hP.map.tidy pageKeyed)
    rw [hP.map.2, (hP.frs.yes n f hn hff).1] at this
    simp at this
    omega
  rw [hzz] at hM
  have hF1 : FrsAt S (u W) M P.F := hP.frs.turn hP.map.isMap (fun k hk' hne => hkb k (hP.lt k hk') hne) hsz fun k x => x
  have hP' := hP.turn (S' := S) (fun k hk' hne => hkb k (hP.lt k hk') hne) hsz (fun k x => x) (fun k x => Nat.lt_of_lt_of_le (hP.lt k x) hsz) hM (hF1.del n)
  have nf : ∀ k, B k → k ≠ fb := fun k hk' e => sb fb hP.sf (e ▸ hk')
  exact ⟨fb, u, hP.cells.c3, hrun, ⟨⟨fb, pv, _, hP'⟩, ⟨L, D, hL.same (fun k x => hkb k (hL.lt x) (nf k (g7 k (.inl x)))) hsz, hD.same (fun k x => hkb k (hD.lt x) (nf k (g7 k (.inr x)))) hsz, g6, g7⟩, sb, g8, fun k x => Nat.lt_of_lt_of_le (g9 k x) hsz⟩, hk, hP.sf⟩

/-- What makeRoom leaves, where the page n with the frame f leaves. -/
def evP (P : PG) (n : Nat) (f : FrV) : PG := { P with F := delFr P.F n, z := P.z - 1, written := if f.since = 0 then P.written else P.written + 1 }
def evL (l : LG) (f : FrV) : LG := if f.since = 0 then l else flL l f.sh.lsn
def evD (l : LG) (d : DG) (f : FrV) : DG := if f.since = 0 then d else outD l d f.sh

/-- Write of any page that is here. -/
theorem write_here {w : World} {p : Nat} {S B : Nat → Prop} {P : PG} {l : LG} {d : DG} {N : Nat} (hS : DevS w p S B P l d) (hd : DOk d N) (hN : N ≤ 80000) (hl : LOk l d) (n : Nat) (h1 : 1 ≤ n) (h2 : n ≤ 2048) {f : FrV} (hf : P.F n = some f) (hc : checkE d.room n = 0) (hz : P.z ≤ 1000000) (hw : P.written ≤ 1000000) :
    Calls Tryz.prog 16 #[.pointer (some ⟨p, 0, none⟩), .int .u32 n] w fun e w' => e = .returned (.int .i64 0) ∧ ∃ B', DevS w' p S B' { P with F := setFr P.F n ⟨f.sh, 0⟩, written := if f.since = 0 then P.written else P.written + 1 } (evL l f) (evD l d f) ∧ Moves (fun k => S k ∨ B k) (fun k => S k ∨ B' k) w w' := by
  by_cases hs : f.since = 0
  · have ho : oldS P n = 0 := by simp only [oldS, hf]; exact hs
    unfold evL evD
    rw [if_pos hs, if_pos hs, if_pos hs]
    refine (write_clean hS.sys n (by omega) ho).mono ?_
    rintro e w' ⟨rfl, b⟩
    have hP : ({ P with F := setFr P.F n ⟨f.sh, 0⟩, written := P.written } : PG) = P := by
      have : setFr P.F n ⟨f.sh, 0⟩ = P.F := by
        funext q
        unfold setFr
        split
        · rename_i e
          subst e
          rw [hf]
          cases f
          simp only at hs
          rw [hs]
        · rfl
      rw [this]
    rw [hP]
    exact ⟨rfl, B, hS.below b, Moves.of_kept (Kept.of_below b)⟩
  · unfold evL evD
    rw [if_neg hs, if_neg hs, if_neg hs]
    exact write_dirty hS hd hN hl n h1 h2 hf hs hc hz hw

set_option maxHeartbeats 1600000 in
set_option maxRecDepth 8000 in
theorem room_full {p : Nat} {P : PG} {l : LG} {d : DG} {N : Nat} (hd : DOk d N) (hN : N ≤ 80000) (hl : LOk l d) (hm : P.most ≤ P.z) (hz : P.z ≤ 12) (hpk : P.picks = []) (hw : P.written ≤ 1000000) {n : Nat} (hv : IsVic P n) {f : FrV} (hf : P.F n = some f) (hc : checkE d.room n = 0) :
    RoomTo p P l d (evP P n f) (evL l f) (evD l d f) := by
  intro W A hSy
  obtain ⟨S, B, hS, hSB⟩ := hSy.dev
  have hlo := hv.lo
  have hhi := hv.hi
  obtain ⟨fb, pv, M, hP⟩ := hS.pool
  have hlen' : ∀ ty, (Builtin.len_ #[110] ty #[.map (some fb)]).run Tryz.prog W.drew = .ok (.int .i64 P.z) W.drew := fun ty => by
    have := (hP.map.same (w' := W.drew) rfl).1.len (t := 110) (e := 108) Tryz.underlying110 ty
    rw [hP.map.2] at this
    exact this
  have c2 := hP.cells.c2
  have c3 := hP.cells.c3
  have HLV := hid (leaver_none (hP.same (w' := W.drew) (fun _ _ => rfl) (Nat.le_refl _)) hz hpk hv)
  have HWR : Hid (∀ W', DevS W' p S B P l d → Calls Tryz.prog 16 #[.pointer (some ⟨p, 0, none⟩), .int .u32 n] W' fun e w' => e = .returned (.int .i64 0) ∧ ∃ B', DevS w' p S B' { P with F := setFr P.F n ⟨f.sh, 0⟩, written := if f.since = 0 then P.written else P.written + 1 } (evL l f) (evD l d f) ∧ Moves (fun k => S k ∨ B k) (fun k => S k ∨ B' k) W' w') := fun W' h => write_here h hd hN hl n hlo hhi hf hc (by omega) hw
  have HEV : Hid (evP P n f = { P with F := delFr P.F n, z := P.z - 1, written := if f.since = 0 then P.written else P.written + 1 }) := rfl
  have HSW := hid hS
  have hmi : ¬ (P.z : Int) < P.most := by omega
  have HPK := hid hpk
  generalize evP P n f = P1 at *
  generalize evL l f = L0 at *
  generalize evD l d f = D0 at *
  generalize hWR : (if f.since = 0 then P.written else P.written + 1) = wr at *
  clear hP hd hl hS hpk
  go_enter Tryz.func48, Tryz.ntmps48
  go_wp2_with fail
  go_region
  go_wp2_with fail
  refine HLV.out.mono ?_
  rintro e w1 ⟨rfl, b1⟩
  have hS1 := (HSW.out.drewN 1).below b1
  go_wp2_with fail
  refine (HWR.out w1 hS1).mono ?_
  rintro e w2 ⟨rfl, B2, hS2, hm2⟩
  obtain ⟨fb2, u, hc3, hrun, hS3, hk3, hfb⟩ := hS2.delFr' (n := n) (by omega) (by show setFr P.F n _ n ≠ none; unfold setFr; simp)
  have hP3 : ({ ({ P with F := setFr P.F n ⟨f.sh, 0⟩, written := wr } : PG) with F := delFr (setFr P.F n ⟨f.sh, 0⟩) n, z := P.z - 1 } : PG) = P1 := by
    rw [HEV.out]
    have : delFr (setFr P.F n ⟨f.sh, 0⟩) n = delFr P.F n := by
      funext q
      unfold delFr setFr
      split <;> rfl
    rw [this]
  have hS3' : DevS (u w2) p S B2 P1 L0 D0 := by rw [← hP3]; exact hS3
  obtain ⟨w3, HW3⟩ : ∃ w3, Hid (w3 = u w2) := ⟨_, rfl⟩
  rw [← HW3.out] at hS3' hk3 hrun
  obtain ⟨pa, pc, c4⟩ : ∃ pa pc, w3.cell? ⟨p, 4, none⟩ = some (.slice pa 0 pc) := by
    obtain ⟨fb', pv', M', hP'⟩ := hS3'.pool
    obtain ⟨pa, pc, e, _⟩ := hP'.picks
    have hp : P1.picks = [] := by rw [HEV.out]; exact HPK.out
    rw [hp] at e
    exact ⟨pa, pc, by rw [← show pv' = .slice pa 0 pc from e]; exact hP'.cells.c4⟩
  have HS3 := hid hS3'
  have HM : Hid (Moves (fun k => S k ∨ B k) (fun k => S k ∨ B2 k) W w3) := by
    have a1 : Moves (fun k => S k ∨ B k) (fun k => S k ∨ B k) W w1 := Moves.of_kept (((Kept.refl _ W).drew).trans (Kept.of_below b1))
    exact (a1.trans hm2).kept (hk3.mono fun k e => by subst e; exact .inl hfb)
  clear hS1 hS2 hS3 hS3' hm2 hP3 HWR HLV
  go_wp2
  go_ret
  exact ⟨rfl, fun k => S k ∨ B2 k, HS3.out.sys, HM.out.1.mono hSB, fun k x => by
    rcases HM.out.2 k x with y | y
    · exact .inl (hSB k y)
    · exact .inr y⟩

end Go.Proofs.YtgmfgkdecpldeaaGreat
