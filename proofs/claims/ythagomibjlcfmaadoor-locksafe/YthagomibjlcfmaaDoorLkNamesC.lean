/-
  The walk of names: all locks in whose queues a transaction is.
-/
import Derived.Test.YthagomibjlcfmaaDoorLkTabC
import Derived.Test.YthagomibjlcfmaaDoorLkDelC
import Derived.Maps.RangeWalk
namespace Go.Proofs.YthagomibjlcfmaaDoor
open Go.RowKit
set_option linter.unusedVariables false
set_option linter.unusedSimpArgs false

def ncells (n : NameV) : List Value := [.int .i64 n.1, .int .i64 n.2.1, .int .u32 n.2.2.1, .int .i64 n.2.2.2]

/-- The value v is a list of names, a row of its own from block B on. -/
def NamesAt (B : Nat) (w : World) (v : Value) (NL : List NameV) : Prop := w.ownsRow B 33 4 v NL.length (NL.flatMap ncells)

theorem NamesAt.nil (B : Nat) (w : World) : NamesAt B w (.slice none 0 0) [] := ⟨rfl, .inl ⟨rfl, rfl⟩⟩
theorem NamesAt.same {B : Nat} {w w' : World} {v : Value} {L : List NameV} (h : NamesAt B w v L) (k : ∀ g, v.ownBlock = some g → w'.heap[g]? = w.heap[g]?) : NamesAt B w' v L := by
  refine ⟨h.1, ?_⟩
  rcases h.2 with ⟨rfl, h1⟩ | ⟨g', cap, cur, rfl, h0, hb, hr⟩
  · exact .inl ⟨rfl, h1⟩
  · exact .inr ⟨g', cap, cur, rfl, h0, (k g' rfl).trans hb, hr⟩
theorem NamesAt.lt {B : Nat} {w : World} {v : Value} {L : List NameV} (h : NamesAt B w v L) : ∀ g, v.ownBlock = some g → B ≤ g ∧ g < w.heap.size := fun g hg => World.ownsRow.lt h g hg
theorem NamesAt.below {B : Nat} {w w' : World} {v : Value} {L : List NameV} (h : NamesAt B w v L) (k : Below w.heap.size w w') : NamesAt B w' v L := h.same fun g hg => k.block g (h.lt g hg).2
theorem NamesAt.val {B : Nat} {w : World} {v : Value} {L : List NameV} (h : NamesAt B w v L) : ∃ a c, v = .slice a L.length c := by
  rcases h.2 with ⟨rfl, h1⟩ | ⟨g', cap, cur, rfl, h0, hb, hr⟩
  · exact ⟨_, _, by rw [h1]⟩
  · exact ⟨_, _, rfl⟩

theorem nflat_get (L : List NameV) (i j : Nat) (hi : i < L.length) (hj : j < 4) : (L.flatMap ncells)[i * 4 + j]? = (ncells L[i])[j]? := by
  induction L generalizing i with
  | nil => simp at hi
  | cons p L ih =>
    rw [List.flatMap_cons]
    have h4 : (ncells p).length = 4 := rfl
    match i, hi with
    | 0, _ =>
      rw [List.getElem?_append_left (by omega)]
      simp
    | i + 1, hi =>
      rw [List.getElem?_append_right (by omega)]
      have : (i + 1) * 4 + j - (ncells p).length = i * 4 + j := by rw [h4]; omega
      rw [this]
      exact ih i (by simpa using hi)

structure NmAt (w : World) (b o : Nat) (t : NameV) : Prop where
  c0 : w.cell? ⟨b, o, none⟩ = some (.int .i64 t.1)
  c1 : w.cell? ⟨b, o + 1, none⟩ = some (.int .i64 t.2.1)
  c2 : w.cell? ⟨b, o + 2, none⟩ = some (.int .u32 t.2.2.1)
  c3 : w.cell? ⟨b, o + 3, none⟩ = some (.int .i64 t.2.2.2)

theorem NmAt.same {w w' : World} {b o : Nat} {t : NameV} (h : NmAt w b o t) (e : w'.heap[b]? = w.heap[b]?) : NmAt w' b o t :=
  ⟨(World.cell?_of_block (w := w) (a := ⟨b, o, none⟩) e).trans h.c0, (World.cell?_of_block (w := w) (a := ⟨b, o + 1, none⟩) e).trans h.c1, (World.cell?_of_block (w := w) (a := ⟨b, o + 2, none⟩) e).trans h.c2, (World.cell?_of_block (w := w) (a := ⟨b, o + 3, none⟩) e).trans h.c3⟩

theorem NamesAt.open {B : Nat} {w : World} {v : Value} {L : List NameV} (h : NamesAt B w v L) (k : Nat) (hk : k < L.length) : ∃ g cap, v = .slice (some ⟨g, 0, none⟩) L.length cap ∧ B ≤ g ∧ g < w.heap.size ∧ NmAt w g (k * 4) L[k] := by
  have h0 := h
  unfold NamesAt at h0
  rcases h0.2 with ⟨e, hn⟩ | ⟨g, cap, cur, rfl, hB, hb, hn, hm, hs, ht⟩
  · omega
  · have cel : ∀ j u, (L.flatMap ncells)[j]? = some u → w.cell? ⟨g, j, none⟩ = some u := fun j u hj => by
      have hl : j < (L.flatMap ncells).length := (List.getElem?_eq_some_iff.1 hj).1
      rw [h0.1] at hl
      have : cur.toList[j]? = some u := by
        rw [← ht, List.getElem?_take] at hj
        rw [if_pos hl] at hj
        exact hj
      simp only [World.cell?, hb]
      simpa using this
    refine ⟨g, cap, rfl, hB, (Array.getElem?_eq_some_iff.1 hb).1, ⟨?_, ?_, ?_, ?_⟩⟩
    · exact cel _ _ ((nflat_get L k 0 hk (by omega)).trans rfl)
    · exact cel _ _ ((nflat_get L k 1 hk (by omega)).trans rfl)
    · exact cel _ _ ((nflat_get L k 2 hk (by omega)).trans rfl)
    · exact cel _ _ ((nflat_get L k 3 hk (by omega)).trans rfl)

/-- slices.SortFunc with byName brings up to m names into some order. -/
def NSorts (m : Nat) : Prop := ∀ (B : Nat) (NL : List NameV) (w : World) (v : Value), NL.length ≤ m → NamesAt B w v NL →
  Calls Tryd.prog 46 #[v, .func (.func 47) #[] #[]] w fun e w' => e = .returned (.tuple #[]) ∧ ∃ NL', NL'.Perm NL ∧ NamesAt B w' v NL' ∧ w.grownBy w' v.ownBlock

theorem infoName : (Tryd.prog.info? 33).map (fun i => (i.zero, i.size, i.bytes)) = some (some (.agg #[.int .i64 0, .int .i64 0, .int .u32 0, .int .i64 0]), 4, 32) := by kernel_rfl

/-- The step of a range over the queues. -/
theorem wpList_next_nm (w : World) {ops : Array Oper} {rest : List Oper} {o : Oper} {a : Act} {Q : Exit → Act → World → Prop} (hg : o.guard = none) (it : Operand) (hop : o.op = Op.next it false) (b r n : Nat) (D : DataW Value) (left : Lit → Bool) (cnt : Nat)
    (hit : a.eval it = .pointer (some ⟨r, 0, none⟩)) (h : w.ranges Tryd.prog 33 rawElem b r n D left cnt) (hkeys : ∀ l, Maps.has D l = true → ∃ n, NKey n l)
    (hDone : cnt = 0 → (∀ kl, left kl = false) → wpList Tryd.prog ops Q rest (a.put o.dst (.tuple #[.bool false])) w)
    (hMore : ∀ (nm : NameV) (c : Value) (kl : Lit) (w' : World) (cnt' : Nat), NKey nm kl → left kl = true → Maps.has D kl = true → getV D kl nilS = c → w'.ranges Tryd.prog 33 rawElem b r n D (fun z => left z && !z.sameKey kl) cnt' → cnt' < cnt →
      w.grownBy w' (some r) → w'.heap.size = w.heap.size → (Instr.entry (.pointer (some ⟨r, 0, none⟩))).run Tryd.prog w' = .ok (.tuple #[nval nm, c]) w' → wpList Tryd.prog ops Q rest (a.put o.dst (.tuple #[.bool true, nval nm, c])) w') :
    wpList Tryd.prog ops Q (o :: rest) a w := by
  refine wpList_plain hg fun K' hK' => ?_
  unfold Oper.wp
  rcases h.next nameKeyed o.type with ⟨h0, hl, hrun⟩ | ⟨key, v, kl, y, w', cnt', hkey, hlk, hv, hat, hrun, hrg, hlt, hgr, hsz, hen⟩
  · simp [execOp, hop, hit, hrun, Result.andThen]
    exact hK' _ _ (hDone h0 hl)
  · have hh : Maps.has D kl = true := Maps.has_true_of_atKey hat
    obtain ⟨nm, hn⟩ := hkeys kl hh
    obtain rfl : key = nval nm := nameKeyed.inj hkey hn
    have hc : getV D kl nilS = v := by
      unfold getV
      rw [hat (.held nilS)]
      unfold rawElem at hv
      simp only [Option.some.injEq] at hv
      rw [← hv]
    simp [execOp, hop, hit, hrun, Result.andThen]
    exact hK' _ _ (hMore nm v kl w' cnt' hn hlk hh hc hrg hlt hgr hsz hen)

/-- Where names' loop stands. -/
structure NmsAt (w wr : World) (bq : Nat) (DQ : DataW Value) (T : Tab) (tx : Int) (v : Value) (NL : List NameV) (left : Lit → Bool) (cnt : Nat) : Prop where
  bel : Below w.heap.size w wr
  rg : wr.ranges Tryd.prog 33 rawElem bq w.heap.size T.z DQ left cnt
  own : NamesAt (w.heap.size + 1) wr v NL
  nd : NL.Nodup
  len : NL.length + cnt ≤ T.z
  key : ∀ n ∈ NL, ∃ l, NKey n l
  mem : ∀ n l, NKey n l → (n ∈ NL ↔ (Maps.has DQ l = true ∧ left l = false ∧ ofF (T.Q n) tx < (T.Q n).length))

theorem NmsAt.below {w wr wx : World} {bq : Nat} {DQ : DataW Value} {T : Tab} {tx : Int} {v : Value} {NL : List NameV} {left : Lit → Bool} {cnt : Nat} (h : NmsAt w wr bq DQ T tx v NL left cnt) (k : Below wr.heap.size wr wx) : NmsAt w wx bq DQ T tx v NL left cnt :=
  ⟨h.bel.trans (k.mono h.bel.size), h.rg.kept (grown_of_below k none) (by simp) (by simp), h.own.below k, h.nd, h.len, h.key, h.mem⟩

/-- The names of the locks at which a transaction is. -/
structure NamesOf (T : Tab) (tx : Int) (NL : List NameV) : Prop where
  nd : NL.Nodup
  key : ∀ n ∈ NL, ∃ l, NKey n l
  mem : ∀ n l, NKey n l → (n ∈ NL ↔ ofF (T.Q n) tx < (T.Q n).length)

theorem NmsAt.skip {w wr wx : World} {bq : Nat} {DQ : DataW Value} {T : Tab} {tx : Int} {v : Value} {NL : List NameV} {left : Lit → Bool} {cnt cnt' : Nat} {nm : NameV} {kl : Lit} (h : NmsAt w wr bq DQ T tx v NL left cnt) (hn : NKey nm kl) (hno : ¬ ofF (T.Q nm) tx < (T.Q nm).length)
    (bel : Below w.heap.size w wx) (rg : wx.ranges Tryd.prog 33 rawElem bq w.heap.size T.z DQ (fun z => left z && !z.sameKey kl) cnt') (hc : cnt' < cnt) (own : NamesAt (w.heap.size + 1) wx v NL) : NmsAt w wx bq DQ T tx v NL (fun z => left z && !z.sameKey kl) cnt' := by
  refine ⟨bel, rg, own, h.nd, by have := h.len; omega, h.key, fun n l hl => ?_⟩
  rw [h.mem n l hl]
  by_cases e : n = nm
  · subst e
    constructor
    · rintro ⟨_, _, x⟩; exact absurd x hno
    · rintro ⟨_, _, x⟩; exact absurd x hno
  · have hne : l ≠ kl := nkey_ne hl hn e
    have : l.sameKey kl = false := Maps.sameKey_ne hne
    simp [this]

theorem NmsAt.push {w wr wx : World} {bq : Nat} {DQ : DataW Value} {T : Tab} {tx : Int} {v v' : Value} {NL : List NameV} {left : Lit → Bool} {cnt cnt' : Nat} {nm : NameV} {kl : Lit} (h : NmsAt w wr bq DQ T tx v NL left cnt) (hn : NKey nm kl) (hh : Maps.has DQ kl = true) (hl0 : left kl = true) (hyes : ofF (T.Q nm) tx < (T.Q nm).length)
    (bel : Below w.heap.size w wx) (rg : wx.ranges Tryd.prog 33 rawElem bq w.heap.size T.z DQ (fun z => left z && !z.sameKey kl) cnt') (hc : cnt' < cnt) (own : NamesAt (w.heap.size + 1) wx v' (NL ++ [nm])) : NmsAt w wx bq DQ T tx v' (NL ++ [nm]) (fun z => left z && !z.sameKey kl) cnt' := by
  have hnot : nm ∉ NL := fun x => by have := ((h.mem nm kl hn).1 x).2.1; rw [hl0] at this; cases this
  refine ⟨bel, rg, own, ?_, by have := h.len; rw [List.length_append]; simp; omega, fun n hn' => ?_, fun n l hl => ?_⟩
  · rw [List.nodup_append]
    exact ⟨h.nd, by simp, fun a ha b hb e => by simp at hb; subst hb; subst e; exact hnot ha⟩
  · rcases List.mem_append.1 hn' with x | x
    · exact h.key n x
    · simp at x; subst x; exact ⟨kl, hn⟩
  · rw [List.mem_append, h.mem n l hl]
    by_cases e : n = nm
    · subst e
      obtain rfl := nkey_eq hl hn
      simp [hh, hyes, WideAt.sameKey_self (nkey_lit hn)]
    · have hne : l ≠ kl := nkey_ne hl hn e
      have : l.sameKey kl = false := Maps.sameKey_ne hne
      simp [this, e]

set_option maxHeartbeats 3200000 in
set_option maxRecDepth 20000 in
theorem names_any {S : Nat → Prop} {w : World} {b : Nat} {T : Tab} (h : IsTab S w b T) (tx : Int) (hz : T.z ≤ 1000000) (hL : ∀ n, (T.Q n).length ≤ 1000000) (hS : NSorts T.z) :
    Calls Tryd.prog 18 #[ptr b, .int .i64 tx] w fun e w' => ∃ v NL, e = .returned v ∧ NamesAt (w.heap.size + 1) w' v NL ∧ NamesOf T tx NL ∧ NL.length ≤ T.z ∧ Below w.heap.size w w' := by
  obtain ⟨bq, bw, DQ, DW, h⟩ := h
  obtain ⟨i0, hi, hzz⟩ := Option.map_eq_some_iff.1 infoName
  simp only [Prod.mk.injEq] at hzz
  obtain ⟨hz0, hz1, hz2⟩ := hzz
  have HT : Hid (TabX noEx S w b bq bw DQ DW T) := h
  have HS : Hid (NSorts T.z) := hS
  have HO : Hid (∀ n l, NKey n l → ∀ wx, Below w.heap.size w wx → Calls Tryd.prog 45 #[getV DQ l nilS, .int .i64 tx] wx fun e w' => e = .returned (.int .i64 (ofF (T.Q n) tx)) ∧ Below wx.heap.size wx w') := fun n l hn wx k => of_any ((h.below k).valq n l hn (fun x => x)) tx
  have c0 := h.c0
  have hmq := h.mq.1
  have hmqs := h.mq.2
  have hlt := h.lt b h.sb
  clear h hS
  unfold ptr
  go_enter Tryd.func18, Tryd.ntmps18
  go_wp2_with (at_range; refine wpList_range_own _ rfl _ 52 rfl 33 61 nameKeyed Tryd.underlying52 _ bq T.z DQ rfl hmq ?_; intro w0 hrg0 hg0 hs0)
  go_frame
  have HA0 : Hid (NmsAt w w0 bq DQ T tx (.slice none 0 0) [] (Maps.has DQ) T.z) := ⟨⟨hg0.os, hg0.tape, hg0.output, hg0.size, fun k hk => hg0.block k hk (by simp)⟩, by rw [hmqs] at hrg0; exact hrg0, NamesAt.nil _ _, List.nodup_nil, by simp, fun n hn => by simp at hn, fun n l hn => by
    constructor
    · intro x; simp at x
    · rintro ⟨x, y, _⟩; rw [x] at y; cases y⟩
  clear hrg0 hg0 hs0 hmq c0
  go_loopw [5] (fun t wr => ∃ NL left cnt, Hid (NmsAt w wr bq DQ T tx t NL left cnt)) (fun _ wr => wr.rangeLeft bq w.heap.size)
  case atStart => exact ⟨_, _, _, HA0⟩
  case round =>
    obtain ⟨NL, left, cnt, HA⟩ := hrel
    clear HA0
    go_wp2_with (at_next; refine wpList_next_nm _ rfl _ rfl bq w.heap.size T.z DQ left cnt rfl HA.out.rg HT.out.keys ?_ ?_)
    · intro _ hl0
      have HSo := HS.out (w.heap.size + 1) NL wr u5 (by have := HA.out.len; omega) HA.out.own
      have hmem : ∀ n l, NKey n l → (n ∈ NL ↔ ofF (T.Q n) tx < (T.Q n).length) := fun n l hn => by
        rw [HA.out.mem n l hn]
        constructor
        · rintro ⟨_, _, x⟩; exact x
        · intro x
          refine ⟨?_, hl0 l, x⟩
          rw [HT.out.hasq n l hn]
          cases hq : T.Q n with
          | nil => rw [hq] at x; simp at x
          | cons a l => rfl
      have HNO : Hid (NamesOf T tx NL ∧ NL.length ≤ T.z ∧ Below w.heap.size w wr ∧ ∀ g, u5.ownBlock = some g → w.heap.size + 1 ≤ g) := ⟨⟨HA.out.nd, HA.out.key, hmem⟩, by have := HA.out.len; omega, HA.out.bel, fun g hg => (HA.out.own.lt g hg).1⟩
      clear HA hmem hl0 HO HT
      go_wp2_with fail
      refine HSo.mono ?_
      rintro e w2 ⟨rfl, NL', hp, ho, hg⟩
      obtain ⟨hno, hlen, bel, hgg⟩ := HNO.out
      have HN2 : Hid (NamesAt (w.heap.size + 1) w2 u5 NL' ∧ NamesOf T tx NL' ∧ NL'.length ≤ T.z ∧ Below w.heap.size w w2) := by
        refine ⟨ho, ⟨hp.nodup_iff.2 hno.nd, fun n hn => hno.key n (hp.mem_iff.1 hn), fun n l hn => hp.mem_iff.trans (hno.mem n l hn)⟩, by rw [hp.length_eq]; exact hlen, bel.grown hg bel.size fun k hk => by have := hgg k hk; omega⟩
      clear HSo HNO hno hlen bel hgg ho hg hp HS
      go_wp2
      go_ret
      exact ⟨u5, NL', rfl, HN2.out⟩
    · intro n0 n1 n2 n3 c kl w1 cnt1 hn hlk hh hc hrg1 hlt1 hg1 hs1 hen
      have bel1 : Below w.heap.size w w1 := HA.out.bel.grown hg1 HA.out.bel.size (fun k hk => by cases hk; exact Nat.le_refl _)
      have own1 : NamesAt (w.heap.size + 1) w1 u5 NL := HA.out.own.same fun g hg => by
        have := (HA.out.own.lt g hg)
        exact hg1.block g this.2 (fun e => by have := Option.some.inj e; omega)
      have hw1 : w.heap.size + 1 ≤ w1.heap.size := by have := HA.out.rg.lt; omega
      obtain ⟨va, vc, hcv⟩ : ∃ va vc, c = .slice va (T.Q (n0, n1, n2, n3)).length vc := by
        rw [← hc]
        rcases (HT.out.valq (n0, n1, n2, n3) kl hn (fun x => x)).open with ⟨e, e2⟩ | ⟨g, cap, e, _⟩
        · exact ⟨none, 0, by rw [e, e2]; rfl⟩
        · exact ⟨_, _, e⟩
      have HOf := HO.out (n0, n1, n2, n3) kl hn
      rw [hc] at HOf
      have HPU : Hid (ofF (T.Q (n0, n1, n2, n3)) tx < (T.Q (n0, n1, n2, n3)).length → ∀ wx v', Below w.heap.size w wx → wx.ranges Tryd.prog 33 rawElem bq w.heap.size T.z DQ (fun z => left z && !z.sameKey kl) cnt1 → NamesAt (w.heap.size + 1) wx v' (NL ++ [(n0, n1, n2, n3)]) → NmsAt w wx bq DQ T tx v' (NL ++ [(n0, n1, n2, n3)]) (fun z => left z && !z.sameKey kl) cnt1) := fun hy wx v' b1 r1 o1 => HA.out.push hn hh hlk hy b1 r1 hlt1 o1
      have HSK : Hid (¬ ofF (T.Q (n0, n1, n2, n3)) tx < (T.Q (n0, n1, n2, n3)).length → ∀ wx, Below w.heap.size w wx → wx.ranges Tryd.prog 33 rawElem bq w.heap.size T.z DQ (fun z => left z && !z.sameKey kl) cnt1 → NamesAt (w.heap.size + 1) wx u5 NL → NmsAt w wx bq DQ T tx u5 NL (fun z => left z && !z.sameKey kl) cnt1) := fun hy wx b1 r1 o1 => HA.out.skip hn hy b1 r1 hlt1 o1
      have hLn := hL (n0, n1, n2, n3)
      have hleft := HA.out.rg.left_eq
      have hNLz : NL.length < T.z := by have := HA.out.len; omega
      have hbq : Hid (bq < w.heap.size) := HT.out.mq.lt
      clear HA HO hh hc hlk hg1 hL HT HS hs1
      generalize hLL : (T.Q (n0, n1, n2, n3)).length = N at *
      generalize hKK : ofF (T.Q (n0, n1, n2, n3)) tx = K at *
      subst hcv
      try unfold nval at hen
      try unfold nval
      try simp only at hen
      have W1 : Below w1.heap.size w1 (w1.alloc (.cells #[.int .i64 n0, .int .i64 n1, .int .u32 n2, .int .i64 n3] 33)) := (Below.refl _ _).alloc (Nat.le_refl _) _
      go_wp2_with fail
      refine (HOf _ (bel1.trans (W1.mono bel1.size))).mono ?_
      rintro e w2 ⟨rfl, b2⟩
      have b12 : Below w1.heap.size w1 w2 := W1.trans (b2.mono (by simp))
      have belx := bel1.trans (b12.mono bel1.size)
      have rg2 := hrg1.kept (grown_of_below b12 none) (by simp) (by simp)
      have own2 := own1.below b12
      have d0 := fun i => (World.cell?_of_block (w := w1.alloc (.cells #[.int .i64 n0, .int .i64 n1, .int .u32 n2, .int .i64 n3] 33)) (w' := w2) (a := ⟨w1.heap.size, i, none⟩) (b2.block w1.heap.size (by simp)))
      have x0 := (d0 0).trans (by rfl)
      have x1 := (d0 1).trans (by rfl)
      have x2 := (d0 2).trans (by rfl)
      have x3 := (d0 3).trans (by rfl)
      simp at x0 x1 x2 x3
      have hlt2 : w1.heap.size < w2.heap.size := Nat.lt_of_lt_of_le (by simp) b2.size
      clear d0 W1 b2 hrg1 own1 HOf hen
      by_cases hy : K < N
      · have hy' : (K : Int) < (N : Int) := by omega
        have hown : (w2.alloc (.cells #[.int .i64 n0, .int .i64 n1, .int .u32 n2, .int .i64 n3] 33)).ownsRow (w.heap.size + 1) 33 4 u5 NL.length (NL.flatMap ncells) := own2.below ((Below.refl _ _).alloc (Nat.le_refl _) _)
        have rg3 := rg2.alloc (.cells #[.int .i64 n0, .int .i64 n1, .int .u32 n2, .int .i64 n3] 33)
        have bel3 := belx.alloc belx.size (.cells #[.int .i64 n0, .int .i64 n1, .int .u32 n2, .int .i64 n3] 33)
        go_wp2_with (at_builtin; refine wpList_append_own_at _ rfl _ _ 57 rfl (w.heap.size + 1) 33 i0 _ 4 32 Tryd.underlying57 hi hz0 hz1 hz2 rfl (by decide) u5 NL.length (NL.flatMap ncells) rfl hown ⟨w2.heap.size, 0, none⟩ 1 1 [.int .i64 n0, .int .i64 n1, .int .u32 n2, .int .i64 n3] rfl rfl (by intro j u hj; match j, hj with | 0, hj => (simp at hj; subst hj; simp [Addr.add]) | 1, hj => (simp at hj; subst hj; simp [Addr.add]) | 2, hj => (simp at hj; subst hj; simp [Addr.add]) | 3, hj => (simp at hj; subst hj; simp [Addr.add])) (by intro u hu; simp at hu; rcases hu with rfl | rfl | rfl | rfl <;> rfl) (by unfold maxLen; omega) (by omega) (by simp; omega) ?_; intro v' w4 hown4 hgrow4 hnil4 hloc4)
        have hbase : ∀ k, u5.ownBlock = some k → w.heap.size + 1 ≤ k := fun k hk => (own2.lt k hk).1
        have rg4 := rg3.kept hgrow4 (fun e => by have := hbase bq e.symm; have := hbq.out; omega) (fun e => by have := hbase _ e.symm; omega)
        have bel4 := bel3.grown hgrow4 bel3.size (fun k hk => by have := hbase k hk; omega)
        have own4 : NamesAt (w.heap.size + 1) w4 v' (NL ++ [(n0, n1, n2, n3)]) := by
          unfold NamesAt
          rw [List.length_append, List.flatMap_append]
          exact hown4
        have HA4 : Hid (NmsAt w w4 bq DQ T tx v' (NL ++ [(n0, n1, n2, n3)]) (fun z => left z && !z.sameKey kl) cnt1) := HPU.out hy w4 v' bel4 rg4 own4
        clear hown4 hgrow4 hnil4 hloc4 hown rg3 bel3 own4 rg2 own2
        go_wp2
        go_roundw
        case rel => exact ⟨_, _, _, HA4⟩
        case measure => rw [rg4.left_eq, hleft]; omega
      · have hy' : ¬ (K : Int) < (N : Int) := by omega
        have HA4 : Hid (NmsAt w w2 bq DQ T tx u5 NL (fun z => left z && !z.sameKey kl) cnt1) := HSK.out hy w2 belx rg2 own2
        go_wp2
        go_roundw
        case rel => exact ⟨_, _, _, HA4⟩
        case measure => rw [rg2.left_eq, hleft]; omega

end Go.Proofs.YthagomibjlcfmaaDoor
