/-
  What a pool reads of a new disk on which both places of page 5 were spoilt.
-/
import Derived.Test.YtgkfdakieebnmaaGreatPoolReadJ
import Derived.Test.YtgkfdakieebnmaaGreatAnMJ
import Derived.Test.YtgkfdakieebnmaaGreatRecMemC
import Derived.Test.YtgkfdakieebnmaaGreatRepeatJ
import Derived.Test.YtgkfdakieebnmaaGreatAnLogC
import Derived.Test.YtgkfdakieebnmaaGreatRecReadXJ
import Derived.Test.YtgkfdakieebnmaaGreatRecDecBad2C
import Derived.Test.YtgkfdakieebnmaaGreatRecPutsJ
set_option linter.unusedVariables false
set_option linter.unusedSimpArgs false
namespace Go.Proofs.YtgkfdakieebnmaaGreat
open Go.RowKit Go.Sort Go.Shelf

theorem zeros_zerosB : zerosB zerosS.data.toList = true := by
  rw [zerosB_iff]
  show dzerosL = List.replicate dzerosL.length 0
  unfold dzerosL
  rw [List.length_replicate]

theorem dec_zeros : decE zerosS = 0 ∧ decP zerosS = sheet0 := by
  have h := zerosS_size
  have hE : decE zerosS = 0 := by
    unfold decE
    rw [if_neg (by omega), if_neg (by omega), if_pos zeros_zerosB]
  refine ⟨hE, ?_⟩
  unfold decP
  rw [if_neg (by rw [zeros_zerosB]; simp)]

end Go.Proofs.YtgkfdakieebnmaaGreat

namespace Go.Proofs.YtgkfdakieebnmaaGreat
open Go.RowKit Go.Sort

structure DmIn (w : World) (db : Nat) (DD : DataW Value) (nd N : Nat) (F : Int → Option Nat) : Prop where
  dm : MapV 49 w db nd DD
  dno : ∀ n, F n = none → Maps.has DD (apkey n) = false
  dyes : ∀ n x, F n = some x → Maps.has DD (apkey n) = true ∧ getV DD (apkey n) zeroLs = .int .u64 (x : Nat)
  nd : nd ≤ N

def DmAt (w : World) (db N : Nat) (F : Int → Option Nat) : Prop := ∃ DD nd, DmIn w db DD nd N F

section
variable {w w' : World} {db N : Nat} {F : Int → Option Nat}

theorem DmAt.same (h : DmAt w db N F) (e : w'.heap[db]? = w.heap[db]?) : DmAt w' db N F := by
  obtain ⟨DD, nd, h⟩ := h
  exact ⟨DD, nd, h.dm.same e, h.dno, h.dyes, h.nd⟩
theorem DmAt.lt (h : DmAt w db N F) : db < w.heap.size := by
  obtain ⟨DD, nd, h⟩ := h
  exact h.dm.lt
theorem DmAt.below (h : DmAt w db N F) (k : Below w.heap.size w w') : DmAt w' db N F := h.same (k.block _ h.lt)
theorem DmAt.made (w : World) : DmAt (w.alloc (.map #[] 0)) w.heap.size 0 (fun _ => none) := ⟨.map [], 0, MapV.made _ _, fun n _ => rfl, fun n x h => (by cases h), Nat.le_refl _⟩
theorem DmAt.more (h : DmAt w db N F) {M : Nat} (k : N ≤ M) : DmAt w db M F := by
  obtain ⟨DD, nd, h⟩ := h
  exact ⟨DD, nd, h.dm, h.dno, h.dyes, Nat.le_trans h.nd k⟩

theorem DmAt.put (h : DmAt w db N F) (p x : Nat) (h2 : p < 4294967296) (hN : N ≤ 900000) :
    ∃ u : World → World, ∀ V : World, V.heap[db]? = w.heap[db]? → (Instr.mapUpdate 105 (.map (some db)) (.int .u32 p) (.int .u64 x)).run Tryz.prog V = .ok () (u V) ∧ DmAt (u V) db (N + 1) (turnF F p (some x)) ∧ Kept (fun k => k = db) V (u V) := by
  obtain ⟨DD, nd, h⟩ := h
  obtain ⟨u, hu⟩ := put_ex 49 105 41 db (.int .u32 p) (.int .u64 x)
  refine ⟨u, fun V hV => ?_⟩
  have hv := h.dm.same hV
  obtain ⟨hrun, hm, ht⟩ := hu V nd DD (apkey p) hv pageKeyed Tryz.underlying105 (by have := h.nd; omega) (apkey_key h2)
  have hk : Kept (fun k => k = db) V (u V) := mapTurned_kept ht rfl
  have hD := hv.tidy pageKeyed
  refine ⟨hrun, ⟨_, _, hm, fun n hn => ?_, fun n y hn => ?_, ?_⟩, hk⟩
  · unfold turnF at hn
    by_cases e : n = (p : Int)
    · rw [if_pos e] at hn; cases hn
    · rw [if_neg e] at hn
      rw [Maps.has_put_other (apkey_ne e)]
      exact h.dno n hn
  · unfold turnF at hn
    by_cases e : n = (p : Int)
    · rw [if_pos e] at hn
      cases hn
      subst e
      exact ⟨Maps.has_put_same hD.isMap (apkey_lit _) _, getV_put_same hD.isMap (apkey_lit _) _ _⟩
    · rw [if_neg e] at hn
      have := h.dyes n y hn
      exact ⟨by rw [Maps.has_put_other (apkey_ne e)]; exact this.1, by rw [getV_put_other (apkey_ne e)]; exact this.2⟩
  · have := size_put_le hD (apkey p) (.held (.int .u64 x))
    have := h.dm.2
    have := h.nd
    omega

theorem DmAt.look (h : DmAt w db N F) (p : Nat) (h2 : p < 4294967296) :
    (Instr.lookup 105 (.map (some db)) (.int .u32 p) true).run Tryz.prog w = .ok (.tuple #[.int .u64 ((F p).getD 0 : Nat), .bool (F p).isSome]) w := by
  obtain ⟨DD, nd, h⟩ := h
  have hr := h.dm.lookOk (e := 41) pageKeyed Tryz.underlying105 (z := zeroLs) (Tryz.zeroValue41 w) (apkey_key h2)
  rw [hr]
  cases e : F p with
  | none => rw [show apkey (p : Int) = apkey ((p : Nat) : Int) from rfl, h.dno p e, getV_none (h.dno p e)]; rfl
  | some x => rw [(h.dyes p x e).1, (h.dyes p x e).2]; rfl

end

def ersS (F : Int → Option Nat) (x : DiV) : Int → Option Nat := match F x.1 with
  | none => turnF F x.1 (some x.2)
  | some y => if x.2 < y then turnF F x.1 (some x.2) else F
def ersF (M : List DiV) : Int → Option Nat := M.foldl ersS fun _ => none

set_option maxHeartbeats 3200000 in
set_option maxRecDepth 20000 in
theorem earliest_any (M : List DiV) (a : Option Addr) (c : Nat) (w : World) (h : DisAt w a M) (hl : M.length ≤ 100000) (hr : ∀ x ∈ M, x.1 < 4294967296) :
    Calls Tryz.prog 98 #[.slice a M.length c] w fun e w' => ∃ b, e = .returned (.map (some b)) ∧ w.heap.size ≤ b ∧ DmAt w' b M.length (ersF M) ∧ Below w.heap.size w w' := by
  have HL := hida h
  have HR := hida hr
  clear h hr
  obtain ⟨W, HW⟩ : ∃ W, Hid (W = w.alloc (.map #[] 0)) := ⟨_, rfl⟩
  have H0 : Hid (Below w.heap.size w W ∧ DmAt W w.heap.size 0 (fun _ => none)) := by rw [HW.out]; exact ⟨(Below.refl _ _).alloc (Nat.le_refl _) _, DmAt.made w⟩
  have hmm := @run_makeMap Tryz.prog
  go_enter Tryz.func98, Tryz.ntmps98
  go_upto_region 2 with fail
  rw [← HW.out]
  clear HW hmm
  go_wp2_with fail
  go_loopw [11] (fun x wr => ∃ k : Nat, x = .int .i64 k ∧ k ≤ M.length ∧ Hid (Below w.heap.size w wr ∧ DmAt wr w.heap.size k ((M.take k).foldl ersS fun _ => none))) (fun x _ => M.length - (intOf x).toNat)
  case atStart => exact ⟨0, rfl, Nat.zero_le _, H0⟩
  case round =>
    obtain ⟨k, rfl, hk, HB⟩ := hrel
    clear H0
    by_cases hlt : k < M.length
    · have e1 : decide ((k : Int) < (M.length : Int)) = true := decide_eq_true (by omega)
      have e2 : (0 : Int) ≤ (k : Int) := by omega
      have e3 : (k : Int) < (M.length : Int) := by omega
      obtain ⟨tb, t9, rfl, g1⟩ : ∃ b1 o1, a = some ⟨b1, o1, none⟩ ∧ DiAt wr b1 (o1 + k * 2) M[k] := by
        rcases HL.out.below HB.out.1 with h | ⟨b1, o1, e, hb, h⟩
        · rw [h] at hlt; simp at hlt
        · exact ⟨b1, o1, e, h k hlt⟩
      have hR := HR.out _ (List.getElem_mem hlt)
      have HT : Hid ((M.take (k + 1)).foldl ersS (fun _ => none) = ersS ((M.take k).foldl ersS fun _ => none) M[k]) := by
        show _ = _
        rw [List.take_succ_eq_append_getElem hlt, List.foldl_append]
        rfl
      generalize (M.take k).foldl ersS (fun _ => none) = F at *
      obtain ⟨t, ht⟩ : ∃ t, M[k] = t := ⟨_, rfl⟩
      rw [ht] at g1 hR HT
      clear ht
      obtain ⟨t0, t1⟩ := t
      obtain ⟨g10, g11⟩ := g1
      dsimp only at g10 g11 hR
      obtain ⟨V, HV⟩ : ∃ V, Hid (V = wr.alloc (.cells #[.int .u32 (t0 : Nat), .int .u64 (t1 : Nat)] 166)) := ⟨_, rfl⟩
      have bV : Below wr.heap.size wr V := by rw [HV.out]; exact (Below.refl _ _).alloc (Nat.le_refl _) _
      have HB2 := hida (show Below w.heap.size w V ∧ DmAt V w.heap.size k F ∧ Blk V wr.heap.size #[.int .u32 (t0 : Nat), .int .u64 (t1 : Nat)] 166 from ⟨below_chain HB.out.1 bV, HB.out.2.below bV, by rw [HV.out]; exact Blk.made _ _ _⟩)
      clear HB bV
      go_upto_region 5 with fail
      rw [← HV.out]
      clear HV g10 g11
      generalize wr.heap.size = rb at *
      have c0 : V.cell? ⟨rb, 0, none⟩ = some (.int .u32 (t0 : Nat)) := HB2.out.2.2.cell 0
      have c1 : V.cell? ⟨rb, 1, none⟩ = some (.int .u64 (t1 : Nat)) := HB2.out.2.2.cell 1
      have hlk := HB2.out.2.1.look t0 hR
      obtain ⟨u, hu⟩ := HB2.out.2.1.put t0 t1 hR (by omega)
      obtain ⟨hrun, hdm, hkp⟩ := hu V rfl
      have HF := hida (show Below w.heap.size w (u V) ∧ DmAt (u V) w.heap.size (k + 1) (turnF F t0 (some t1)) from ⟨⟨hkp.os.trans HB2.out.1.os, hkp.tape.trans HB2.out.1.tape, hkp.output.trans HB2.out.1.output, Nat.le_trans HB2.out.1.size hkp.size, fun i hi => (hkp.block i (Nat.lt_of_lt_of_le hi HB2.out.1.size) (by omega)).trans (HB2.out.1.block i hi)⟩, hdm⟩)
      clear hu hdm hkp
      cases hF : F t0 with
      | none =>
        rw [hF] at hlk
        dsimp only [Option.getD, Option.isSome] at hlk
        have HT2 : Hid ((M.take (k + 1)).foldl ersS (fun _ => none) = turnF F t0 (some t1)) := by
          show _ = _
          rw [HT.out]
          unfold ersS
          rw [show F ((t0, t1) : DiV).1 = none from hF]
        clear HT hF HB2
        go_wp2_with fail
        go_roundw
        case rel => exact ⟨k + 1, by go_num, by omega, by rw [HT2.out]; exact HF⟩
        case measure => simp [intOf]; omega
      | some y =>
        rw [hF] at hlk
        dsimp only [Option.getD, Option.isSome] at hlk
        by_cases hlt2 : t1 < y
        · have d1 : decide ((t1 : Int) < (y : Int)) = true := decide_eq_true (by omega)
          have HT2 : Hid ((M.take (k + 1)).foldl ersS (fun _ => none) = turnF F t0 (some t1)) := by
            show _ = _
            rw [HT.out]
            unfold ersS
            rw [show F ((t0, t1) : DiV).1 = some y from hF]
            exact if_pos hlt2
          clear HT hF HB2
          go_wp2_with fail
          go_roundw
          case rel => exact ⟨k + 1, by go_num, by omega, by rw [HT2.out]; exact HF⟩
          case measure => simp [intOf]; omega
        · have d1 : decide ((t1 : Int) < (y : Int)) = false := decide_eq_false (by omega)
          have HT2 : Hid ((M.take (k + 1)).foldl ersS (fun _ => none) = F) := by
            show _ = _
            rw [HT.out]
            unfold ersS
            rw [show F ((t0, t1) : DiV).1 = some y from hF]
            exact if_neg hlt2
          have HF2 := hida (show Below w.heap.size w V ∧ DmAt V w.heap.size (k + 1) F from ⟨HB2.out.1, HB2.out.2.1.more (by omega)⟩)
          clear HT hF HB2 HF
          go_wp2_with fail
          go_roundw
          case rel => exact ⟨k + 1, by go_num, by omega, by rw [HT2.out]; exact HF2⟩
          case measure => simp [intOf]; omega
    · have e1 : decide ((k : Int) < (M.length : Int)) = false := decide_eq_false (by omega)
      obtain rfl : k = M.length := by omega
      rw [List.take_length] at HB
      go_wp2_with fail
      go_ret
      exact ⟨_, rfl, Nat.le_refl _, HB.out.2, HB.out.1⟩

end Go.Proofs.YtgkfdakieebnmaaGreat

namespace Go.Proofs.YtgkfdakieebnmaaGreat
open Go.RowKit Go.Sort Go.Shelf Go.Lib

theorem textB_len (s : ByteArray) : (textB s).length ≤ s.size + 2 := by
  unfold textB
  split
  · rw [List.length_append, putL_length]
    have : s.data.toList.length = s.size := Array.length_toList
    omega
  · simp

theorem encR_8192 {r : RecV} (h : MayR r) : (encR r).length ≤ 8192 := by
  unfold encR
  simp only [List.length_append, putL_length]
  have hn : (if nextB r then putL r.next 8 else []).length ≤ 8 := by split <;> simp [putL_length]
  have hc : (if changeB r then changeL r else []).length ≤ 1036 := by
    split
    · rename_i hb
      obtain ⟨_, _, _, h1, h2, _⟩ := h.change hb
      unfold changeL
      have a1 := textB_len r.op.S
      have a2 := textB_len r.op.old
      simp only [List.length_append, putL_length]
      omega
    · simp
  have hk : (if keyB r then rkeyL r else []).length ≤ 80 := by
    split
    · rename_i hb
      obtain ⟨_, h1, _⟩ := h.key hb
      unfold rkeyL
      have a1 := textB_len r.key
      simp only [List.length_append, putL_length]
      omega
    · simp
  have hl : (if listsB r then txsL r.txs ++ disL r.dirty else []).length ≤ 6800 := by
    split
    · rename_i hb
      obtain ⟨h1, h2, _⟩ := h.lists hb
      have a1 := txL_len r.txs r.txs.length
      have a2 := diL_len r.dirty r.dirty.length
      rw [List.take_length] at a1 a2
      unfold txsL disL
      simp only [List.length_append, putL_length]
      omega
    · simp
  omega

def textR (r : RecV) : ByteArray := ⟨(encR r).toArray⟩

theorem textR_size (r : RecV) : (textR r).size = (encR r).length := by
  unfold textR
  generalize encR r = l
  exact List.size_toArray

theorem no_lists {r : RecV} (h : sameR r (namedV r) = true) (hl : listsB r = false) : r.txs = [] ∧ r.dirty = [] := by
  have e := sameR_eq h
  have e1 : r.txs = (namedV r).txs := congrArg RecV.txs e
  have e2 : r.dirty = (namedV r).dirty := congrArg RecV.dirty e
  have f1 : (namedV r).txs = if listsB r then r.txs else [] := rfl
  have f2 : (namedV r).dirty = if listsB r then r.dirty else [] := rfl
  rw [hl] at f1 f2
  exact ⟨e1.trans f1, e2.trans f2⟩

theorem hr_of {r : RecV} (hm : mayR r = true) (hp : r.page < 4294967296) (hd : ∀ x ∈ r.dirty, x.1 < 4294967296) : HrOk r := by
  have h := may_parts hm
  cases hl : listsB r with
  | true =>
    obtain ⟨h1, h2, h3⟩ := h.lists hl
    exact ⟨h.tx, hp, h1, h2, fun x hx => (h3 x hx).1, hd⟩
  | false =>
    obtain ⟨h1, h2⟩ := no_lists h.same hl
    exact ⟨h.tx, hp, by rw [h1]; exact Nat.zero_le _, by rw [h2]; exact Nat.zero_le _, fun x hx => (by rw [h1] at hx; cases hx), hd⟩

theorem rcheck_may {r : RecV} (h : mayR r = true) : rcheckE r = 0 := by unfold rcheckE; rw [h]; rfl

theorem an_good {r : RecV} {w : World} {ta da : Option Addr} (hm : mayR r = true) (hw : r.Wide) (h : r.Ok w ta da) : DecGood (textR r) r ∧ HrOk r := by
  refine ⟨fun wx => ?_, hr_of hm h.page fun x hx => ?_⟩
  · have hr := (enc_reads (may_parts hm) hw h.prev h.next h.page h.rpage).2 ByteArray.empty
    rw [ByteArray.append_empty] at hr
    have hsz := textR_size r
    have h8 := encR_8192 (may_parts hm)
    have he : endE (textR r) (encR r).length 0 = 0 := by
      unfold endE
      rw [hsz, if_neg (by omega)]
    exact decode_good' (textR r) wx (by rw [hsz]; omega) hr he (rcheck_may hm) fun wx ta da a b => ⟨h.kind, h.tx, h.prev, h.next, h.page, h.op, h.undo, h.index, h.key, h.rpage, h.rslot, h.tlen, h.dlen, a, b⟩
  · obtain ⟨i, hi, rfl⟩ := List.getElem_of_mem hx
    exact (hw.dirty i hi).1

theorem an_any (s : ByteArray) (hs : s.size ≤ 140737488351232) : (∃ r, DecGood s r ∧ HrOk r) ∨ DecBad s := by
  by_cases he : endE s (readR s).1 (readR s).2.1 = 0
  · have h2 : (readR s).2.1 = 0 := by
      unfold endE at he
      split at he
      · cases he
      · exact he
    have hr : readR s = ((readR s).1, 0, (readR s).2.2) := by rw [← h2]
    have hf := reads_fit hr
    by_cases hc : rcheckE (readR s).2.2 = 0
    · refine .inl ⟨(readR s).2.2, fun wx => ?_, ?_⟩
      · exact decode_good' s wx (by omega) hr (by rw [h2] at he; exact he) hc fun wx ta da a b => hf.ok wx ta da a b
      · refine hr_of ?_ hf.page fun x hx => (hf.dirty x hx).1
        unfold rcheckE at hc
        split at hc
        · assumption
        · cases hc
    · exact .inr fun wx => decode_not s wx (by omega) rfl rfl rfl rfl rfl rfl rfl he hc fun wx ta da a b => hf.ok wx ta da a b
  · exact .inr fun wx => decode_bad' s wx (by omega) he

end Go.Proofs.YtgkfdakieebnmaaGreat

namespace Go.Proofs.YtgkfdakieebnmaaGreat
open Go.RowKit Go.Sort Go.Shelf Go.Lib

structure Bare (d : DG) : Prop where
  room : d.room = 64
  rd : ∀ q, readD d q = zerosS

def bareV (n : Nat) : SheetV := ⟨n, 0, 0, ⟨#[]⟩, []⟩

theorem Bare.page {d : DG} (h : Bare d) {n : Nat} (h1 : 1 ≤ n) (h2 : n ≤ 64) : feE d n = 0 ∧ feX d n = bareV n := by
  have hc : checkE d.room n = 0 := by
    rw [h.room]
    unfold checkE
    rw [if_neg (by omega), if_neg (by omega)]
  have hb : rdB n zerosS = true := by
    unfold rdB
    rw [dec_zeros.1, dec_zeros.2]
    simp [sheet0]
  have hp : rdP n zerosS = ⟨n, 0, 0, ⟨#[]⟩, []⟩ := by
    unfold rdP
    rw [if_pos hb, dec_zeros.2]
    rfl
  have hg : givesB (rdP n zerosS) (rdP n zerosS) = true := by
    rw [hp]
    unfold givesB blankB sameB
    simp
  have hP : chP n zerosS zerosS = true := by
    unfold chP
    rw [hb, hg]
    rfl
  unfold feE feX
  rw [if_pos hc, if_pos hc, h.rd, h.rd]
  unfold chE chX
  rw [if_pos hP, if_pos hP, hp]
  exact ⟨rfl, rfl⟩

theorem Bare.size {d : DG} (h : Bare d) (q : Nat) : (readD d q).size ≤ 1000000 := by
  have := zerosS_size
  rw [h.rd]
  omega

structure RdS (w W : World) (p q : Nat) (A : Nat → Prop) (l : LG) (d : DG) (rs : List ByteArray) (sure j : Nat) : Prop where
  bel : Below w.heap.size w W
  ex : ∃ S D, WpL W p q S D l d rs sure 0 0 j ∧ ∀ k, A k ↔ S k ∨ D k
  lo : ∀ k, A k → w.heap.size ≤ k
  bare : Bare d

structure PoAt (w W : World) (A : Nat → Prop) (p q pp : Nat) (S : Nat → Prop) (P : PG) : Prop where
  pool : IsPool W pp S P
  dp : P.dp = p
  lp : P.lp = q
  off : ∀ k, S k → ¬ A k
  lo : ∀ k, S k → w.heap.size ≤ k

section
variable {w W W' : World} {p q pp pq : Nat} {A A' A2 S S' S2 : Nat → Prop} {l l' : LG} {d d' : DG} {rs : List ByteArray} {sure j : Nat} {P P' P2 : PG}

theorem RdS.lt (h : RdS w W p q A l d rs sure j) {k : Nat} (hk : A k) : k < W.heap.size := by
  obtain ⟨S, D, hw, hA⟩ := h.ex
  rcases (hA k).1 hk with x | x
  · exact hw.log.lt x
  · exact hw.disk.lt x

theorem RdS.below (h : RdS w W p q A l d rs sure j) (k : Below W.heap.size W W') : RdS w W' p q A l d rs sure j := by
  obtain ⟨S, D, hw, hA⟩ := h.ex
  exact ⟨below_chain h.bel k, ⟨S, D, hw.below k, hA⟩, h.lo, h.bare⟩

theorem PoAt.below (h : PoAt w W A p q pp S P) (k : Below W.heap.size W W') : PoAt w W' A p q pp S P := ⟨h.pool.below k, h.dp, h.lp, h.off, h.lo⟩

theorem RdS.lgat (h : RdS w W p q A l d rs sure j) : LgAt W q A rs sure 0 j := by
  obtain ⟨S, D, hw, hA⟩ := h.ex
  exact ⟨p, S, D, l, d, hw, hA⟩

theorem RdS.sys (h : RdS w W p q A l d rs sure j) (hp : PoAt w W A p q pp S P) : Sys W pp (fun k => S k ∨ A k) P l d := by
  have hlt := fun k (x : A k) => h.lt x
  obtain ⟨S0, D, hw, hA⟩ := h.ex
  refine ⟨⟨S, S0, D, hp.pool, by rw [hp.lp]; exact hw.log, by rw [hp.dp]; exact hw.disk, fun k a b => hp.off k a ((hA k).2 (.inl b)), fun k a b => hp.off k a ((hA k).2 (.inr b)), hw.off, ?_⟩, by rw [hp.dp]; exact hw.dp, ?_⟩
  · rintro k (x | x | x)
    · exact .inl x
    · exact .inr ((hA k).2 (.inl x))
    · exact .inr ((hA k).2 (.inr x))
  · rintro k (x | x)
    · exact hp.pool.lt x
    · exact hlt k x

structure Stp (w W W' : World) (p q pp : Nat) (A S : Nat → Prop) (l : LG) (d : DG) (rs : List ByteArray) (sure j : Nat) (P' : PG) : Prop where
  ex : ∃ A' S', RdS w W' p q A' l d rs sure j ∧ PoAt w W' A' p q pp S' P' ∧ Moves (fun k => S k ∨ A k) (fun k => S' k ∨ A' k) W W'

theorem RdS.back (h : RdS w W p q A l d rs sure j) (hp : PoAt w W A p q pp S P) (hS : Sys W' pp A2 P' l d) (hm : Moves (fun k => S k ∨ A k) A2 W W') (e1 : P'.dp = P.dp) (e2 : P'.lp = P.lp) : Stp w W W' p q pp A S l d rs sure j P' := by
  obtain ⟨S0, D, hw, hA⟩ := h.ex
  obtain ⟨⟨S', L', D', hP, hL, hD, g4, g5, g6, g7⟩, g8, g9⟩ := hS
  rw [e2, hp.lp] at hL
  rw [e1, hp.dp] at hD
  have hs := h.bel.size
  have hlo : ∀ k, A2 k → w.heap.size ≤ k := fun k x => by
    rcases hm.2 k x with (y | y) | y
    · exact hp.lo k y
    · exact h.lo k y
    · omega
  refine ⟨fun k => L' k ∨ D' k, S', ⟨?_, ⟨L', D', ?_, fun k => Iff.rfl⟩, fun k x => hlo k (g7 k (.inr x)), h.bare⟩, ⟨hP, e1.trans hp.dp, e2.trans hp.lp, fun k x y => ?_, fun k x => hlo k (g7 k (.inl x))⟩, ⟨hm.1, fun k x => hm.2 k (g7 k x)⟩⟩
  · exact below_kept h.bel hm.1 fun k x => by
      rcases x with x | x
      · exact hp.lo k x
      · exact h.lo k x
  · exact ⟨hL, hD, hw.dp, g6, hw.bytes, hw.recs, hw.half, hw.keeps, hw.fits, hw.sz, hw.cnt, hw.su, hw.fl, hw.dlog, hw.dead, hw.plan, hw.calls, hw.ok, hw.loose, hw.sl, hw.nS, hw.mrk, hw.sm, hw.mkp, hw.mz⟩
  · rcases y with y | y
    · exact g4 k x y
    · exact g5 k x y

theorem PoAt.beside (h2 : PoAt w W A p q pq S2 P2) (hoff : ∀ k, S2 k → ¬ S k) (hm : Moves (fun k => S k ∨ A k) (fun k => S' k ∨ A' k) W W') : PoAt w W' A' p q pq S2 P2 ∧ ∀ k, S2 k → ¬ S' k := by
  have hk : ∀ k, S2 k → W'.heap[k]? = W.heap[k]? ∧ ¬ (S' k ∨ A' k) := fun k x => hm.off (h2.pool.lt x) fun y => by
    rcases y with y | y
    · exact hoff k x y
    · exact h2.off k x y
  exact ⟨⟨h2.pool.same (fun k x => (hk k x).1) hm.1.size, h2.dp, h2.lp, fun k x y => (hk k x).2 (.inr y), h2.lo⟩, fun k x y => (hk k x).2 (.inl y)⟩

theorem PoAt.log (h2 : PoAt w W A p q pq S2 P2) (hm : Moves A A' W W') : PoAt w W' A' p q pq S2 P2 := by
  have hk : ∀ k, S2 k → W'.heap[k]? = W.heap[k]? ∧ ¬ A' k := fun k x => hm.off (h2.pool.lt x) (h2.off k x)
  exact ⟨h2.pool.same (fun k x => (hk k x).1) hm.1.size, h2.dp, h2.lp, fun k x y => (hk k x).2 y, h2.lo⟩

end

def shOf (P : PG) (n : Nat) : SheetV := match P.F n with
  | some f => f.sh
  | none => bareV n
def ofG (P : PG) (n : Nat) : PG := match P.F n with
  | some _ => P
  | none => getP P (bareV n)

section
variable {w W : World} {p q pp : Nat} {A S : Nat → Prop} {l : LG} {d : DG} {rs : List ByteArray} {sure j : Nat} {P : PG}

theorem rd_get (h : RdS w W p q A l d rs sure j) (hp : PoAt w W A p q pp S P) (n : Nat) (h1 : 1 ≤ n) (h2 : n ≤ 64) (hz : P.F n = none → P.z < P.most) (hm : P.most ≤ 256) (hf : P.fetched ≤ 100000) :
    Calls Tryz.prog 15 #[.pointer (some ⟨pp, 0, none⟩), .int .u32 n] W fun e w' => ∃ a c, e = .returned (.tuple #[(shOf P n).val a c, .int .i64 0]) ∧ StrsFrom W.heap.size w' a (shOf P n).slots ∧ Stp w W w' p q pp A S l d rs sure j (ofG P n) := by
  have hs := h.sys hp
  unfold shOf ofG
  cases hF : P.F n with
  | some f =>
    refine (get_here hs n h1 (by omega) hF).mono ?_
    rintro e w' ⟨a, c, rfl, hst, b⟩
    exact ⟨a, c, rfl, hst, h.back hp (hs.below b) ⟨Kept.of_below b, fun k x => .inl x⟩ rfl rfl⟩
  | none =>
    obtain ⟨hE, hX⟩ := h.bare.page h1 h2
    obtain ⟨S0, D, hw, hA⟩ := h.ex
    have hz' := hz hF
    refine (get_new (P1 := P) (l1 := l) (d1 := d) hs n h1 (by omega) hF hw.dead h.bare.size hE (room_roomy hz' (by omega)) hF (by omega) (by omega)).mono ?_
    rintro e w' ⟨a, c, A', rfl, hst, hS', hm', _⟩
    rw [hX] at hst hS' ⊢
    exact ⟨a, c, rfl, hst, h.back hp hS' hm' rfl rfl⟩

theorem rd_put (h : RdS w W p q A l d rs sure j) (hp : PoAt w W A p q pp S P) (X : SheetV) (a : Option Addr) (c : Nat) (hX : X.Fits) (hst : StrsAt W a X.slots) (hoff : ∀ b o, a = some ⟨b, o, none⟩ → ¬ (S b ∨ A b)) (h1 : 1 ≤ X.num) (h2 : X.num ≤ 64) (hz : P.F X.num = none → P.z < P.most) (hzz : P.z ≤ 1000) (hm : P.most ≤ 256) :
    Calls Tryz.prog 18 #[.pointer (some ⟨pp, 0, none⟩), X.val a c] W fun e w' => e = .returned (.int .i64 0) ∧ Stp w W w' p q pp A S l d rs sure j (putP P X) := by
  have hs := h.sys hp
  have hok := hX.ok hst
  refine (poolPut_any (P1 := P) (l1 := l) (d1 := d) hs X a c hok hoff h1 (by omega) ((encE_fits hok).2 hX) (fun hn => ⟨room_roomy (hz hn) (by omega), hn⟩) (fun _ => ⟨rfl, rfl, rfl⟩) (by omega)).mono ?_
  rintro e w' ⟨rfl, A', hS', hm'⟩
  exact ⟨rfl, h.back hp hS' hm' rfl rfl⟩

end

end Go.Proofs.YtgkfdakieebnmaaGreat

namespace Go.Proofs.YtgkfdakieebnmaaGreat
open Go.RowKit Go.Sort Go.Shelf Go.Lib

section
variable {w W : World} {p q pp : Nat} {A S : Nat → Prop} {l : LG} {d : DG} {rs : List ByteArray} {sure j : Nat} {P : PG}

theorem rd_append (h : RdS w W p q A l d rs sure j) (hj : j ≤ 1000) (s : ByteArray) (h1 : 1 ≤ s.size) (h2 : s.size ≤ 8192) (hf : placeOf rs rs.length + s.size + 12 ≤ 4194305) :
    Calls Tryz.prog 21 #[.pointer (some ⟨q, 0, none⟩), .string s] W fun e w' => e = .returned (.tuple #[.int .u64 (placeOf rs rs.length : Nat), .int .i64 0]) ∧ ∃ A' l', RdS w w' p q A' l' d (rs ++ [s]) sure (j + 1) ∧ Moves A A' W w' := by
  obtain ⟨hb, ⟨S0, D, hw, hA⟩, hlo, hbr⟩ := h
  have hl := hw.long
  have hk := hw.keeps
  refine (append_out hw.log hw.blen (by rw [hw.slen]; have := hw.cnt; omega) hw.klen s h1 h2 (by omega)).mono ?_
  rintro e w' ⟨rfl, S', hS, hm⟩
  have hmv := moves_log hA hm
  refine ⟨by rw [hl], fun k => S' k ∨ D k, { putG l s with kept := 0 }, ⟨below_kept hb hmv.1 hlo, ⟨S', D, ?_, fun k => Iff.rfl⟩, fun k x => ?_, hbr⟩, hmv⟩
  · have hS' : IsLog w' q S' { putG l s with kept := 0 } := by
      have : ({ putG l s with kept := 0 } : LG) = putG l s := by
        unfold putG
        rw [← hk]
      rw [this]
      exact hS
    exact hw.push hS' hm h1 h2 (by omega)
  · rcases hmv.2 k x with y | y
    · exact hlo k y
    · have := hb.size; omega

theorem rd_flush (h : RdS w W p q A l d rs sure j) (hj : j ≤ 1000) :
    Calls Tryz.prog 25 #[.pointer (some ⟨q, 0, none⟩), .int .u64 (placeOf rs rs.length : Nat)] W fun e w' => e = .returned (.int .i64 0) ∧ ∃ A' l' d', RdS w w' p q A' l' d' rs rs.length (j + 1) ∧ Moves A A' W w' := by
  obtain ⟨hb, ⟨S0, D, hw, hA⟩, hlo, hbr⟩ := h
  have hl := hw.long
  have hfl := hw.flu
  have hsu := hw.su
  by_cases hs : sure = rs.length
  · have hf : l.flushed = l.bytes.length := by rw [hs] at hfl; omega
    refine (flush_none hw.log (by omega) hw.blen (placeOf rs rs.length) (.inl hf)).mono ?_
    rintro e w' ⟨rfl, b⟩
    refine ⟨rfl, A, l, d, ⟨below_chain hb b, ⟨S0, D, ?_, hA⟩, hlo, hbr⟩, ⟨Kept.of_below b, fun k x => .inl x⟩⟩
    have := (hw.below b).later (i := j + 1) (by omega)
    rw [hs] at this
    exact this
  · have hmn := placeOf_mono rs (i := sure) (j := rs.length) hsu
    have hlt : l.flushed < l.bytes.length := by omega
    have hdl : d.log.length = l.flushed := by rw [hw.dlog, hw.fl]
    refine (flush_out hw.log (by rw [hw.dp]; exact hw.disk) hw.off hw.half hlt hw.blen hw.dead hw.plan (by have := hw.calls; omega) hdl (placeOf rs rs.length) (by omega)).mono ?_
    rintro e w' ⟨rfl, D', hL, hD, ho, hn, hk⟩
    rw [hw.dp] at hD
    have hmv : Moves A (fun k => S0 k ∨ D' k) W w' := ⟨hk.mono fun k x => (hA k).2 x, fun k x => by
      rcases x with x | x
      · exact .inl ((hA k).2 (.inl x))
      · rcases hn k x with y | y
        · exact .inl ((hA k).2 (.inr y))
        · exact .inr y⟩
    refine ⟨rfl, fun k => S0 k ∨ D' k, { l with flushed := l.bytes.length }, flushD l d, ⟨below_kept hb hmv.1 hlo, ⟨S0, D', hw.flushed hL hD ho, fun k => Iff.rfl⟩, fun k x => ?_, ⟨hbr.room, hbr.rd⟩⟩, hmv⟩
    rcases hmv.2 k x with y | y
    · exact hlo k y
    · have := hb.size; omega

theorem rd_end (h : RdS w W p q A l d rs sure j) :
    Calls Tryz.prog 26 #[.pointer (some ⟨q, 0, none⟩)] W fun e w' => e = .returned (.int .u64 (placeOf rs rs.length : Nat)) ∧ w' = W := lg_end h.lgat

theorem rd_pool (h : RdS w W p q A l d rs sure j) (n : Nat) (h1 : 4 ≤ n) (h2 : n ≤ 256) :
    Calls Tryz.prog 12 #[.pointer (some ⟨p, 0, none⟩), .pointer (some ⟨q, 0, none⟩), .int .i64 n] W fun e w' => ∃ pp S, e = .returned (.tuple #[.pointer (some ⟨pp, 0, none⟩), .int .i64 0]) ∧ PoAt w w' A p q pp S (pool0 p q n) ∧ (∀ k, S k → W.heap.size ≤ k) ∧ Below W.heap.size W w' := by
  refine (pnew_ok W p q n h1 h2).mono ?_
  rintro e w' ⟨pp, S, rfl, hP, hlo, hb⟩
  exact ⟨pp, S, rfl, ⟨hP, rfl, rfl, fun k x y => by have := hlo k x; have := h.lt y; omega, fun k x => by have := hlo k x; have := h.bel.size; omega⟩, hlo, hb⟩

end

theorem rd_start (w : World) : Calls Tryz.prog 48 #[.int .i64 64] w fun e w' => ∃ p, e = .returned (.tuple #[.pointer (some ⟨p, 0, none⟩), .int .i64 0]) ∧
    Calls Tryz.prog 11 #[.pointer (some ⟨p, 0, none⟩)] w' fun e w'' => ∃ q A l d, e = .returned (.tuple #[.pointer (some ⟨q, 0, none⟩), .int .i64 0, .int .i64 0]) ∧ RdS w w'' p q A l d [] 0 0 := by
  refine (new_any w 64 (by omega) (by omega)).mono ?_
  rintro e w' ⟨p, rfl, ⟨m, hd, hlo⟩, hb⟩
  obtain ⟨D, hD, hlo⟩ : ∃ D, IsDisk w' p D (newD 64) ∧ ∀ k, D k → w.heap.size ≤ k := by
    refine ⟨m.has p, ⟨m, hd, fun _ x => x, ?_⟩, hlo⟩
    rintro k (rfl | x)
    · exact hd.lt
    · exact hd.rest_lt x
  refine ⟨p, rfl, ?_⟩
  refine (open_out hD rfl (by show (0 : Nat) ≤ _; omega) rfl).mono ?_
  rintro e w'' ⟨q, rfl, ⟨S, hS, hS2⟩, hb2⟩
  have ho : ∀ k, S k → ¬ D k := fun k x y => by have := hS2 k x; have := hD.lt y; omega
  have hlog : (newD 64).log = allL ([] : List ByteArray) ++ [] := rfl
  have h0 : frameN ⟨(newD 64).log.toArray⟩ (allL ([] : List ByteArray)).length = 0 := frameN_end (by rw [bytes_size]; show (0 : Nat) < 0 + 4; omega)
  obtain ⟨o1, o2, o3, o4⟩ := open_recs p (newD 64) [] [] hlog (fun r hr => by cases hr) h0
  refine ⟨q, fun k => S k ∨ D k, openL p (newD 64), newD 64, rfl, ⟨below_chain hb hb2, ⟨S, D, ?_, fun k => Iff.rfl⟩, fun k x => ?_, ⟨rfl, fun q => rfl⟩⟩⟩
  · exact ⟨hS, hD.below hb2, rfl, ho, o2, o1, rfl, rfl, by rw [o2]; show (0 : Nat) + 0 ≤ _; omega, (fun r hr => by cases hr), Nat.le_refl _, Nat.le_refl _, o3, rfl, rfl, rfl, Nat.le_refl _, ⟨fun y hy => (by cases hy), fun q => zerosS_size, by show (0 : Nat) + 0 ≤ _; omega, by show (0 : Nat) ≤ _; omega, Nat.le_refl _⟩, rfl, rfl, Nat.le_refl _, rfl, rfl, .inl rfl, by omega⟩
  · rcases x with x | x
    · have := hS2 k x; have := hb.size; omega
    · exact hlo k x

set_option maxHeartbeats 800000 in
set_option maxRecDepth 60000 in
theorem rbegun_any (w : World) (n : Nat) (h1 : 4 ≤ n) (h2 : n ≤ 256) : Calls Tryz.prog 17 #[.int .i64 n] w fun e w' => ∃ p q pp A S l d, e = .returned (.tuple #[.pointer (some ⟨p, 0, none⟩), .pointer (some ⟨q, 0, none⟩), .pointer (some ⟨pp, 0, none⟩), .bool true]) ∧ RdS w w' p q A l d [] 0 0 ∧ PoAt w w' A p q pp S (pool0 p q n) := by
  have HNW := hida (rd_start w)
  go_enter Tryz.func17, Tryz.ntmps17
  go_wp2_with fail
  refine HNW.out.mono ?_
  rintro e w1 ⟨p, rfl, ho⟩
  have HOP := hida ho
  clear HNW ho
  go_wp2_with fail
  refine HOP.out.mono ?_
  rintro e w2 ⟨q, A, l, d, rfl, hR⟩
  have HR := hida hR
  have HPN := hida (rd_pool hR n h1 h2)
  clear HOP hR
  go_wp2_with fail
  refine HPN.out.mono ?_
  rintro e w3 ⟨pp, S, rfl, hP, hlo, hb⟩
  have HF := hida (show RdS w w3 p q A l d [] 0 0 ∧ PoAt w w3 A p q pp S (pool0 p q n) from ⟨HR.out.below hb, hP⟩)
  clear HPN HR hP hlo hb
  go_wp2_with fail
  refine bodyPost_ret (v := .tuple #[.pointer (some ⟨p, 0, none⟩), .pointer (some ⟨q, 0, none⟩), .pointer (some ⟨pp, 0, none⟩), .bool true]) (by simp [results, Tryz.results17, go_sem]) rfl ?_
  exact ⟨p, q, pp, A, S, l, d, rfl, HF.out.1, HF.out.2⟩

end Go.Proofs.YtgkfdakieebnmaaGreat
