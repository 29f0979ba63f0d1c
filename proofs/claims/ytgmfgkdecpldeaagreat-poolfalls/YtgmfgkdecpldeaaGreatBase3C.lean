/-
  A row of bytes that came out of a conversion, or of an append: its cells, an append of a text to it, and a text made of its part.
  Plain mathematics: what Decode finds in the bytes that Encode makes.
  The walks of girderlaw03.ref, girderref03.Same, girderlaw03.same, page.Kind, girderref03.Turned.
  Plain mathematics: Decode of Encode is the page.
  The walk of girderlaw03.same.
  Encode and Decode whole; girderlaw03.awake.
-/
import Derived.Test.YtgmfgkdecpldeaaGreatDiskLogC
import Derived.Lib.FrozenHead
import Derived.Lib.ConvBytes
import Derived.Test.YtgmfgkdecpldeaaGreatPageDecode2C
import Derived.Test.YtgmfgkdecpldeaaGreatPageSameC
import Derived.Test.YtgmfgkdecpldeaaGreatPageEncOkC
namespace Go.Proofs.YtgmfgkdecpldeaaGreat
open Go.RowKit
set_option linter.unusedVariables false

/-- The slice v holds the bytes l, in a row of its own (the mark of a conversion's row stands behind its cells). -/
def ByteRow (w : World) (v : Value) (l : List UInt8) : Prop :=
  (v = .slice none 0 0 ∧ l = []) ∨ ∃ g cap cur fz, v = .slice (some ⟨g, 0, none⟩) l.length cap ∧ w.heap[g]? = some (.cells cur 5 fz) ∧ (fz.2 = 0 ∨ cap ≤ fz.1) ∧ l.length ≤ cap ∧ cap ≤ maxLen ∧ cur.size = cap ∧ cur.toList.take l.length = dcellsOf l

theorem ByteRow.block {w : World} {v : Value} {l : List UInt8} (h : ByteRow w v l) {g : Nat} (k : v.ownBlock = some g) : ∃ cur fz, w.heap[g]? = some (.cells cur 5 fz) := by
  rcases h with ⟨rfl, _⟩ | ⟨g', cap, cur, fz, rfl, hb, _⟩
  · cases k
  · cases k; exact ⟨cur, fz, hb⟩

theorem ByteRow.lt {w : World} {v : Value} {l : List UInt8} (h : ByteRow w v l) {g : Nat} (k : v.ownBlock = some g) : g < w.heap.size := by
  obtain ⟨cur, fz, hb⟩ := h.block k
  exact (Array.getElem?_eq_some_iff.1 hb).1

theorem ByteRow.same {w w' : World} {v : Value} {l : List UInt8} (h : ByteRow w v l) (k : ∀ g, v.ownBlock = some g → w'.heap[g]? = w.heap[g]?) : ByteRow w' v l := by
  rcases h with h | ⟨g', cap, cur, fz, rfl, hb, hr⟩
  · exact .inl h
  · exact .inr ⟨g', cap, cur, fz, rfl, (k g' rfl).trans hb, hr⟩

theorem ByteRow.slice {w : World} {v : Value} {l : List UInt8} (h : ByteRow w v l) : ∃ a c, v = .slice a l.length c := by
  rcases h with ⟨rfl, rfl⟩ | ⟨g', cap, cur, fz, rfl, _⟩
  · exact ⟨none, 0, rfl⟩
  · exact ⟨_, _, rfl⟩

theorem cellsOf_get {l : List UInt8} {j : Nat} (hj : j < l.length) : (dcellsOf l)[j]? = some (.int .u8 (l[j].toNat : Int)) := by
  simp [dcellsOf, hj]

theorem ByteRow.cell {w : World} {g cap : Nat} {l : List UInt8} {n : Nat} (h : ByteRow w (.slice (some ⟨g, 0, none⟩) n cap) l) (j : Nat) (hj : j < l.length) : w.cell? ⟨g, j, none⟩ = some (.int .u8 (l[j].toNat : Int)) := by
  rcases h with ⟨h, _⟩ | ⟨g', cap', cur, fz, e, hb, _, _, _, hc, ht⟩
  · cases h
  · simp only [Value.slice.injEq, Option.some.injEq, Addr.mk.injEq] at e
    obtain ⟨⟨rfl, _, _⟩, _, _⟩ := e
    have h1 := cellsOf_get hj
    rw [← ht, List.getElem?_take, if_pos hj] at h1
    rw [cell_of_row w g j cur _ fz hb]
    simpa using h1

/-- A row that is owned. -/
theorem ByteRow.of_owns {w : World} {v : Value} {l : List UInt8} (h : w.ownsRow 0 5 1 v l.length (dcellsOf l)) : ByteRow w v l := by
  rcases h.2 with ⟨e, e2⟩ | ⟨g, cap, cur, rfl, _, hg, h1, h2, h3, h4⟩
  · exact .inl ⟨e, List.eq_nil_of_length_eq_zero e2⟩
  · exact .inr ⟨g, cap, cur, (0, 0), rfl, hg, .inl rfl, h1, h2, by simpa using h3, by simpa using h4⟩

/-- Cells put into a row whose mark stands behind them. -/
theorem storeCells_row (P : Program) (g o : Nat) (t : TypeId) (fz : Nat × Nat) : ∀ (vs : List Value) (i : Nat) (cur : Array Value) (w : World), w.heap[g]? = some (.cells cur t fz) → (fz.2 = 0 ∨ cur.size ≤ fz.1) → o + i + vs.length ≤ cur.size → (∀ v ∈ vs, v.oneCell' = true) →
    (storeCells ⟨g, o, none⟩ vs i).run P w = .ok () (w.setRow g (cur.toList.take (o + i) ++ vs ++ cur.toList.drop (o + i + vs.length)).toArray)
  | [], i, cur, w, hg, _, _, _ => by
    simp only [storeCells, List.append_nil, List.length_nil, Nat.add_zero, List.take_append_drop, Array.toArray_toList]
    rw [setRow_self w g cur t fz hg]
    rfl
  | v :: rest, i, cur, w, hg, hfz, hl, h1 => by
    have hi : o + i < cur.size := by simp at hl; omega
    have hadd : (⟨g, o, none⟩ : Addr).add i = ⟨g, o + i, none⟩ := by unfold Addr.add; split <;> simp_all
    have hcell : w.cell? ⟨g, o + i, none⟩ = some cur[o + i] := by simp [World.cell?, hg, hi]
    have hfro : w.frozen? ⟨g, o + i, none⟩ = false := by
      obtain ⟨lo, hi'⟩ := fz
      simp only [World.frozen?, hg, Bool.and_eq_false_iff, decide_eq_false_iff_not]
      simp only at hfz
      omega
    have hst : (store ((⟨g, o, none⟩ : Addr).add i) v).run P w = .ok () (w.setRow g (cur.setIfInBounds (o + i) v)) := by
      rw [hadd, run_store P w _ v _ (h1 v (by simp)), hcell]
      simp [hfro, setCell_eq_setRow w g (o + i) cur t fz v hg]
    have ih := storeCells_row P g o t fz rest (i + 1) (cur.setIfInBounds (o + i) v) (w.setRow g (cur.setIfInBounds (o + i) v)) (setRow_heap w g cur _ t _ hg) (by simpa using hfz) (by simp at hl ⊢; omega) (fun x hx => h1 x (by simp [hx]))
    simp only [storeCells, Sem.run_bind, hst, Result.andThen_ok, ih, setRow_setRow]
    congr 3
    have e := list_seg_step cur.toList (o + i) v rest (by simp at hl ⊢; omega)
    simpa [Array.toList_setIfInBounds, Nat.add_assoc] using e

theorem run_row_room (w : World) (ty : TypeId) (g n cap : Nat) (cur : Array Value) (fz : Nat × Nat) (hg : w.heap[g]? = some (.cells cur 5 fz)) (hfz : fz.2 = 0 ∨ cur.size ≤ fz.1) (s : ByteArray)
    (hroom : n + s.size ≤ cap) (hfit : n + s.size ≤ cur.size) :
    (Builtin.append_ #[47, 9] ty #[.slice (some ⟨g, 0, none⟩) n cap, .string s]).run Tryz.prog w =
      .ok (.slice (some ⟨g, 0, none⟩) (n + s.size) cap) (w.setRow g (cur.toList.take n ++ Lib.strCells s ++ cur.toList.drop (n + s.size)).toArray) := by
  obtain ⟨i0, hi, hz0, hz1, hz2⟩ := info_parts infoB
  have hf := Lib.run_firstCells_string (P := Tryz.prog) w 1 s
  have hst := storeCells_row Tryz.prog g n 5 fz (Lib.strCells s) 0 cur w hg hfz (by simpa [Lib.strCells_length] using hfit) (Lib.strCells_oneCell s)
  simp only [Nat.add_zero, Lib.strCells_length] at hst
  simp [Builtin.append_, run_underlying Tryz.underlying47, run_underlying Tryz.underlying9, sizeOf, typeInfo, hi, hz1, Builtin.lenOf, hroom, hf, Addr.add_lit, hst]

/-- A text behind a row of bytes. -/
theorem run_row_text (w : World) (ty : TypeId) (v : Value) (l : List UInt8) (hown : ByteRow w v l) (s : ByteArray) (hb : l.length + s.size ≤ 1000000000) :
    ∃ v' w', (Builtin.append_ #[47, 9] ty #[v, .string s]).run Tryz.prog w = .ok v' w' ∧ ByteRow w' v' (l ++ s.data.toList) ∧ w.grownBy w' v.ownBlock ∧ (∀ k, v'.ownBlock = some k → v.ownBlock = some k ∨ w.heap.size ≤ k) := by
  obtain ⟨i0, hi, hz0, hz1, hz2⟩ := info_parts infoB
  have hlen : (l ++ s.data.toList).length = l.length + s.size := by simp
  have hcells : dcellsOf (l ++ s.data.toList) = dcellsOf l ++ Lib.strCells s := by rw [dstrCells_eq]; simp [dcellsOf]
  have hcl : (dcellsOf l).length = l.length := by simp [dcellsOf]
  rcases hown with ⟨rfl, rfl⟩ | ⟨g, cap, cur, fz, rfl, hg, hfz, hnc, hcm, hcs, htake⟩
  · obtain ⟨v', w', h1, h2, h3, h4⟩ := run_text_at w ty (.slice none 0 0) 0 [] (World.ownsRow_nil w 0 _ _) s (by simpa using hb)
    refine ⟨v', w', h1, ByteRow.of_owns ?_, h3, h4⟩
    rw [hlen, hcells]
    simpa [dcellsOf] using h2
  · by_cases hroom : l.length + s.size ≤ cap
    · have hr := run_row_room w ty g l.length cap cur fz hg (by rw [hcs]; exact hfz) s hroom (by omega)
      refine ⟨_, _, hr, .inr ⟨g, cap, _, fz, by rw [hlen], setRow_heap w g cur _ _ _ hg, hfz, by omega, hcm, ?_, ?_⟩, ⟨rfl, rfl, rfl, by simp, fun k _ hk => setRow_other w g k _ (fun e => hk (by simp [Value.ownBlock, e]))⟩, fun k hk => .inl hk⟩
      · simp only [List.size_toArray, List.length_append, List.length_take, List.length_drop, Array.length_toList, Lib.strCells_length]
        omega
      · rw [htake, hcells]
        have e : (dcellsOf l ++ Lib.strCells s).length = (l ++ s.data.toList).length := by rw [List.length_append, hcl, Lib.strCells_length, hlen]
        rw [← e]
        exact List.take_left
    · have holds : ∀ j u, (dcellsOf l)[j]? = some u → w.cell? ((⟨g, 0, none⟩ : Addr).add j) = some u := by
        intro j u hu
        have hadd : (⟨g, 0, none⟩ : Addr).add j = ⟨g, j, none⟩ := by unfold Addr.add; split <;> simp_all
        rw [hadd, cell_of_row w g j cur _ fz hg]
        rw [← htake, List.getElem?_take] at hu
        split at hu
        · simpa using hu
        · cases hu
      have hr := Lib.run_append_grow_string (P := Tryz.prog) w 47 9 ty 5 i0 (.int .u8 0) Tryz.underlying47 Tryz.underlying9 hi hz0 ⟨g, 0, none⟩ l.length cap (dcellsOf l) (by rw [hz1]; simpa using hcl) holds s (by omega) (by omega) (by rw [hz2]; exact growslice_fits (by omega) (by omega))
      have hge := grownCap_ge w (l.length + s.size) cap 5
      have hcm2 : grownCap w (l.length + s.size) cap 5 ≤ maxLen := grownCap_le_maxLen w (l.length + s.size) cap 5 (by unfold maxLen; omega)
      refine ⟨_, _, hr, .inr ⟨w.heap.size, _, _, (0, 0), by rw [hlen], heap_alloc_new w.drew _, .inl rfl, by rw [hlen]; exact hge, hcm2, ?_, ?_⟩, ⟨rfl, rfl, rfl, by simp, fun k hk _ => Go.heap_alloc_old w.drew _ hk⟩, fun k hk => .inr (by simp only [Value.ownBlock, Option.some.injEq] at hk; omega)⟩
      · have hz1 : (Value.int IntKind.u8 0).cells.size = 1 := rfl
        simp only [Array.size_append, List.size_toArray, size_zeroCells, hz1, hcl, Lib.strCells_length]
        omega
      · simp only [Array.toList_append, List.append_assoc]
        rw [← List.append_assoc, hcells]
        have e : (dcellsOf l ++ Lib.strCells s).length = (l ++ s.data.toList).length := by rw [List.length_append, hcl, Lib.strCells_length, hlen]
        rw [← e]
        exact List.take_left

theorem wpList_row_text (w : World) {ops : Array Oper} {rest : List Oper} {o : Oper} {a : Act} {Q : Exit → Act → World → Prop} (hgd : o.guard = none) (sl x : Operand)
    (ho : o.op = .call { callee := .builtin .append, args := #[sl, x], argTypes := #[47, 9] }) (v : Value) (l : List UInt8) (hs : a.eval sl = v) (hown : ByteRow w v l) (s : ByteArray) (hx : a.eval x = .string s)
    (hb : l.length + s.size ≤ 1000000000)
    (h : ∀ v' w', ByteRow w' v' (l ++ s.data.toList) → w.grownBy w' v.ownBlock → (∀ k, v'.ownBlock = some k → v.ownBlock = some k ∨ w.heap.size ≤ k) → wpList Tryz.prog ops Q rest (a.put o.dst v') w') : wpList Tryz.prog ops Q (o :: rest) a w := by
  refine wpList_plain hgd fun K hK => ?_
  obtain ⟨v', w', hr, h2, h3, h4⟩ := run_row_text w o.type v l hown s hb
  unfold Oper.wp execOp
  simp only [ho, resolve, invoke, builtin, Sem.run_bind, Sem.run_pure, Result.andThen_ok, List.map_toArray, List.map_cons, List.map_nil, hs, hx, hr]
  exact hK _ _ (h v' w' h2 h3 h4)

/-- '[]byte(s)'. -/
theorem run_row_made (w : World) (s : ByteArray) (hs : s.size ≤ 1000000000) :
    ∃ v w', (convert 9 47 (.string s)).run Tryz.prog w = .ok v w' ∧ ByteRow w' v s.data.toList ∧ Below w.heap.size w w' ∧ (∀ k, v.ownBlock = some k → w.heap.size ≤ k) := by
  have hr := Lib.run_convert_string_bytes (P := Tryz.prog) w 9 47 5 s Tryz.underlying9 Tryz.underlying47 Tryz.underlying5
  have hge := grownCap_ge w s.size 0 5
  have hcm2 : grownCap w s.size 0 5 ≤ maxLen := grownCap_le_maxLen w s.size 0 5 (by unfold maxLen; omega)
  have hz : (Lib.bytesCells w 5 s).size = grownCap w s.size 0 5 := by
    simp [Lib.bytesCells]
    omega
  refine ⟨_, _, hr, .inr ⟨w.heap.size, _, _, _, by simp, Lib.bytesWorld_at_new w _ s, .inr (by rw [hz]; exact Nat.le_refl _), by simpa using hge, hcm2, hz, ?_⟩, ⟨rfl, rfl, rfl, by rw [Lib.bytesWorld_size]; omega, fun k hk => Lib.bytesWorld_at_old w _ s k hk⟩, fun k hk => by simp only [Value.ownBlock, Option.some.injEq] at hk; omega⟩
  simp only [Lib.bytesCells, Array.toList_append, Array.toList_map]
  rw [List.take_append_of_le_length (by simp), List.take_of_length_le (by simp)]
  rfl

end Go.Proofs.YtgmfgkdecpldeaaGreat

namespace Go.Proofs.YtgmfgkdecpldeaaGreat
open Go.RowKit
set_option linter.unusedVariables false

theorem part_at {s : ByteArray} {pre mid post : List UInt8} (h : s.data.toList = pre ++ (mid ++ post)) {a n : Nat} (ha : a = pre.length) (hn : n = mid.length) : part s a n = mid := by
  subst ha hn; unfold part; rw [h]; simp

theorem extract_at {s : ByteArray} {pre mid post : List UInt8} (h : s.data.toList = pre ++ (mid ++ post)) {a b : Nat} (ha : a = pre.length) (hb : b = a + mid.length) : s.extract a b = ⟨mid.toArray⟩ := by
  subst hb; rw [← part_extract, part_at h ha rfl]

/-- A page that Encode takes. -/
structure SheetV.Fits (p : SheetV) : Prop where
  num : p.num < 4294967296
  lsn : p.lsn < 18446744073709551616
  kind0 : 0 ≤ p.kind
  kind1 : p.kind ≤ 255
  head : p.head.size ≤ 32
  len : p.slots.length ≤ 64
  fits : p.head.size + slotSum p.slots ≤ 485

theorem crcz0 : crcL 4294967295 (List.replicate 64 0) = 4231468184 := by decide +kernel
theorem crcz1 : crcL 4231468184 (List.replicate 64 0) = 4158167844 := by decide +kernel
theorem crcz2 : crcL 4158167844 (List.replicate 64 0) = 2345306063 := by decide +kernel
theorem crcz3 : crcL 2345306063 (List.replicate 64 0) = 1200442991 := by decide +kernel
theorem crcz4 : crcL 1200442991 (List.replicate 64 0) = 64332339 := by decide +kernel
theorem crcz5 : crcL 64332339 (List.replicate 64 0) = 1158271177 := by decide +kernel
theorem crcz6 : crcL 1158271177 (List.replicate 64 0) = 3425213895 := by decide +kernel
theorem crcz7 : crcL 3425213895 (List.replicate 60 0) = 329799228 := by decide +kernel
theorem crcL_rep {n : Nat} (r a b : Nat) (h : n = a + b) : crcL r (List.replicate n 0) = crcL (crcL r (List.replicate a 0)) (List.replicate b 0) := by rw [h, ← List.replicate_append_replicate, crcL_append]

theorem crc_zeros_of (n : Nat) (h : n = 508) : crcL 4294967295 (List.replicate n 0) = 329799228 := by
  rw [crcL_rep 4294967295 64 444 h, crcz0, crcL_rep 4231468184 64 380 (by omega), crcz1, crcL_rep 4158167844 64 316 (by omega), crcz2, crcL_rep 2345306063 64 252 (by omega), crcz3,
    crcL_rep 1200442991 64 188 (by omega), crcz4, crcL_rep 64332339 64 124 (by omega), crcz5, crcL_rep 1158271177 64 60 (by omega), crcz6, crcz7]

theorem crc_zeros_ne (n : Nat) (h : n = 508) : crcSum 0 (List.replicate n 0) ≠ 0 := by
  unfold crcSum
  rw [Nat.sub_zero, crc_zeros_of n h]
  omega

theorem putL_zero_of {n k : Nat} (h : putL n k = List.replicate k 0) (hn : n < 2 ^ (8 * k)) : n = 0 := by
  have e := le_putL n k
  rw [h, Nat.mod_eq_of_lt hn] at e
  rw [← e]
  have : ∀ m, le (List.replicate m 0) = 0 := by
    intro m
    induction m with
    | zero => rfl
    | succ m ih => rw [List.replicate_succ]; simp [le, ih]
  exact this k

theorem encL_zeros (p : SheetV) (h : p.Fits) : zerosB (encL p) = false := by
  rw [Bool.eq_false_iff]
  intro hz
  have h1 := (zerosB_iff _).1 hz
  rw [encL_length p h.fits] at h1
  unfold encL at h1
  have hr : restL p = List.replicate 508 0 := by
    have := congrArg (List.drop 4) h1
    rw [List.drop_append_of_le_length (by rw [putL_length]; omega), List.drop_of_length_le (by rw [putL_length]; omega), List.nil_append, List.drop_replicate] at this
    exact this
  have hc : putL (crcSum 0 (restL p)) 4 = List.replicate 4 0 := by
    have := congrArg (List.take 4) h1
    rw [List.take_append_of_le_length (by rw [putL_length]; omega), List.take_of_length_le (by rw [putL_length]; omega), List.take_replicate] at this
    exact this
  have := putL_zero_of hc (by have := crcSum_lt 0 (restL p); omega)
  rw [hr] at this
  exact crc_zeros_ne _ rfl this

section
variable (p : SheetV)

/-- What stands from the LSN to the LSN at the end. -/
def midL : List UInt8 := bodyL p ++ List.replicate (485 - p.head.size - slotSum p.slots) 0

theorem enc_size (h : p.Fits) : (ByteArray.mk (encL p).toArray).size = 512 := by rw [bytes_size]; exact encL_length p h.fits

theorem enc_data : (ByteArray.mk (encL p).toArray).data.toList = encL p := by simp

theorem midL_length (h : p.Fits) : (midL p).length = 500 := by
  have := h.fits
  simp only [midL, List.length_append, bodyL_length, List.length_replicate]; omega

theorem enc_cut (h : p.Fits) : cutB ⟨(encL p).toArray⟩ = ⟨(midL p).toArray⟩ := by
  refine extract_at (pre := putL (crcSum 0 (restL p)) 4) (post := putL p.lsn 8) ?_ (by rw [putL_length]) (by rw [midL_length p h])
  rw [enc_data]; rfl

theorem enc_rest (h : p.Fits) : (ByteArray.mk (encL p).toArray).extract 4 512 = ⟨(restL p).toArray⟩ := by
  refine extract_at (pre := putL (crcSum 0 (restL p)) 4) (post := []) ?_ (by rw [putL_length]) (by rw [restL_length p h.fits])
  rw [enc_data, List.append_nil]; rfl

theorem enc_sum (h : p.Fits) : (ByteArray.mk (encL p).toArray).extract 0 4 = ⟨(putL (crcSum 0 (restL p)) 4).toArray⟩ := by
  refine extract_at (pre := []) (post := restL p) ?_ rfl (by rw [putL_length])
  rw [enc_data]; rfl

theorem enc_tail (h : p.Fits) : (ByteArray.mk (encL p).toArray).extract 504 512 = ⟨(putL p.lsn 8).toArray⟩ := by
  refine extract_at (pre := putL (crcSum 0 (restL p)) 4 ++ midL p) (post := []) ?_ (by rw [List.length_append, putL_length, midL_length p h]) (by rw [putL_length])
  rw [enc_data, List.append_nil, List.append_assoc]; rfl

theorem enc_lsn (h : p.Fits) : (ByteArray.mk (encL p).toArray).extract 4 12 = ⟨(putL p.lsn 8).toArray⟩ := by
  refine extract_at (pre := putL (crcSum 0 (restL p)) 4) (post := (restL p).drop 8) ?_ (by rw [putL_length]) (by rw [putL_length])
  rw [enc_data]
  have : restL p = putL p.lsn 8 ++ (restL p).drop 8 := by
    unfold restL bodyL
    simp only [List.append_assoc]
    rw [List.drop_left' (by rw [putL_length])]
  rw [← this]; rfl
end

end Go.Proofs.YtgmfgkdecpldeaaGreat

namespace Go.Proofs.YtgmfgkdecpldeaaGreat
open Go.RowKit Go.Sort
set_option linter.unusedVariables false



/-- 'string([]byte{byte(k)}) + h'. -/
def kindS (k : Int) (h : ByteArray) : ByteArray := ⟨#[UInt8.ofNat (k % 256).toNat]⟩ ++ h

theorem one_byteI {P : Program} (w : World) (k : Int) (src dst el : TypeId) (hs : P.underlying src = some (.slice el)) (he : P.underlying el = some (.int .u8)) (hd : P.underlying dst = some .string) :
    (convert src dst (.slice (some ⟨w.heap.size, 0, none⟩) 1 1)).run P (w.alloc (.cells #[.int .u8 (k % 256)] el)) = .ok (.string ⟨#[UInt8.ofNat (k % 256).toNat]⟩) (w.alloc (.cells #[.int .u8 (k % 256)] el)) := by
  refine RowU.toString (N := 1) (f := fun _ => k % 256) (fun j hj => ?_) [UInt8.ofNat (k % 256).toNat] rfl (fun j hj => ?_) src dst el hs he hd
  · obtain rfl : j = 0 := by omega
    exact ⟨by simp, by simp⟩
  · obtain rfl : j = 0 := by simpa using hj
    simp; omega







end Go.Proofs.YtgmfgkdecpldeaaGreat

namespace Go.Proofs.YtgmfgkdecpldeaaGreat
open Go.RowKit
set_option linter.unusedVariables false

/-- So many zeros stand behind the slots. -/
def zerosL (p : SheetV) : List UInt8 := List.replicate (485 - p.head.size - slotSum p.slots) 0

/-- The bytes between, as a text. -/
def midB (p : SheetV) : ByteArray := ⟨(midL p).toArray⟩

section
variable (p : SheetV)

theorem mid_data : (midB p).data.toList = putL p.lsn 8 ++ (putL p.num 4 ++ (putL p.kind.toNat 1 ++ (putL p.head.size 1 ++ (p.head.data.toList ++ (putL p.slots.length 1 ++ (slotLens p.slots ++ (slotBytes p.slots ++ zerosL p))))))) := by
  simp [midB, midL, bodyL, zerosL]

theorem head_len : p.head.data.toList.length = p.head.size := by simp

theorem mid_lsn (h : p.Fits) : le (part (midB p) 0 8) = p.lsn := by
  have e := part_at (s := midB p) (pre := []) (mid := putL p.lsn 8) (a := 0) (n := 8) (mid_data p) rfl (by rw [putL_length])
  rw [e, le_putL]
  exact Nat.mod_eq_of_lt h.lsn

theorem mid_num (h : p.Fits) : le (part (midB p) 8 4) = p.num := by
  rw [part_at (pre := putL p.lsn 8) (mid_data p) (by rw [putL_length]) (by rw [putL_length]), le_putL]
  exact Nat.mod_eq_of_lt h.num

theorem mid_kind (h : p.Fits) : le (part (midB p) 12 1) = p.kind.toNat := by
  rw [part_at (pre := putL p.lsn 8 ++ putL p.num 4) (by rw [mid_data, List.append_assoc]) (by simp [putL_length]) (by rw [putL_length]), le_putL]
  exact Nat.mod_eq_of_lt (by have := h.kind0; have := h.kind1; omega)

theorem mid_hn (h : p.Fits) : pHn (midB p) = p.head.size := by
  unfold pHn
  rw [part_at (pre := putL p.lsn 8 ++ putL p.num 4 ++ putL p.kind.toNat 1) (by rw [mid_data, List.append_assoc, List.append_assoc]) (by simp [putL_length]) (by rw [putL_length]), le_putL]
  exact Nat.mod_eq_of_lt (by have := h.head; omega)

theorem mid_head (h : p.Fits) : part (midB p) 14 (pHn (midB p)) = p.head.data.toList := by
  rw [mid_hn p h]
  exact part_at (pre := putL p.lsn 8 ++ putL p.num 4 ++ putL p.kind.toNat 1 ++ putL p.head.size 1) (mid := p.head.data.toList) (post := putL p.slots.length 1 ++ (slotLens p.slots ++ (slotBytes p.slots ++ zerosL p))) (by rw [mid_data]; simp only [List.append_assoc]) (by simp [putL_length]) (by rw [head_len])

theorem mid_n (h : p.Fits) : pN (midB p) = p.slots.length := by
  unfold pN
  rw [mid_hn p h, part_at (pre := putL p.lsn 8 ++ putL p.num 4 ++ putL p.kind.toNat 1 ++ putL p.head.size 1 ++ p.head.data.toList) (mid := putL p.slots.length 1) (post := slotLens p.slots ++ (slotBytes p.slots ++ zerosL p)) (by rw [mid_data]; simp only [List.append_assoc]) (by simp only [List.length_append, putL_length, head_len]) (by rw [putL_length]), le_putL]
  exact Nat.mod_eq_of_lt (by have := h.len; omega)

theorem slot_lt (h : p.Fits) (j : Nat) (hj : j < p.slots.length) : p.slots[j].size < 65536 := by
  have := slotSum_at p.slots j hj
  have := h.fits
  omega

theorem mid_long (h : p.Fits) (j : Nat) (hj : j < p.slots.length) : longAt (midB p) (15 + p.head.size) j = p.slots[j].size := by
  unfold longAt
  have e : slotLens p.slots = slotLens (p.slots.take j) ++ (putL p.slots[j].size 2 ++ slotLens (p.slots.drop (j + 1))) := by
    conv => lhs; rw [← List.take_append_drop j p.slots, slotLens_append, List.drop_eq_getElem_cons hj]
    rfl
  rw [part_at (pre := putL p.lsn 8 ++ putL p.num 4 ++ putL p.kind.toNat 1 ++ putL p.head.size 1 ++ p.head.data.toList ++ putL p.slots.length 1 ++ slotLens (p.slots.take j))
    (mid := putL p.slots[j].size 2) (post := slotLens (p.slots.drop (j + 1)) ++ (slotBytes p.slots ++ zerosL p)) (by rw [mid_data, e]; simp only [List.append_assoc])
    (by simp only [List.length_append, putL_length, head_len, slotLens_length, List.length_take]; omega) (by rw [putL_length]), le_putL]
  exact Nat.mod_eq_of_lt (slot_lt p h j hj)

theorem slotBytes_len_snoc (L : List ByteArray) (k : Nat) (h : k < L.length) : (slotBytes (L.take (k + 1))).length = (slotBytes (L.take k)).length + L[k].size := by
  rw [slotBytes_snoc L k h, List.length_append]; simp

theorem mid_off (h : p.Fits) (k : Nat) (hk : k ≤ p.slots.length) : offAt (midB p) (15 + p.head.size) p.slots.length k = 15 + p.head.size + 2 * p.slots.length + (slotBytes (p.slots.take k)).length := by
  induction k with
  | zero => simp [offAt, slotBytes]
  | succ k ih =>
    simp only [offAt]
    rw [ih (by omega), mid_long p h k (by omega), slotBytes_len_snoc p.slots k (by omega)]
    omega

theorem mid_slot (h : p.Fits) (j : Nat) (hj : j < p.slots.length) : slotAt (midB p) (15 + p.head.size) p.slots.length j = p.slots[j] := by
  unfold slotAt
  rw [mid_off p h j (by omega), mid_long p h j hj]
  have e : slotBytes p.slots = slotBytes (p.slots.take j) ++ (p.slots[j].data.toList ++ slotBytes (p.slots.drop (j + 1))) := by
    conv => lhs; rw [← List.take_append_drop j p.slots, slotBytes_append, List.drop_eq_getElem_cons hj]
    rfl
  rw [part_at (pre := putL p.lsn 8 ++ putL p.num 4 ++ putL p.kind.toNat 1 ++ putL p.head.size 1 ++ p.head.data.toList ++ putL p.slots.length 1 ++ slotLens p.slots ++ slotBytes (p.slots.take j))
    (mid := p.slots[j].data.toList) (post := slotBytes (p.slots.drop (j + 1)) ++ zerosL p) (by rw [mid_data, e]; simp only [List.append_assoc])
    (by simp only [List.length_append, putL_length, head_len, slotLens_length]; omega) (by simp), bytes_self]

theorem mid_poff (h : p.Fits) : pOff (midB p) = 15 + p.head.size + slotSum p.slots := by
  unfold pOff
  rw [mid_hn p h, mid_n p h, mid_off p h _ (Nat.le_refl _), List.take_length]
  have := slot_lengths p.slots
  have := slotLens_length p.slots
  omega

theorem mid_slots (h : p.Fits) : slotsAt (midB p) (15 + pHn (midB p)) (pN (midB p)) = p.slots := by
  rw [mid_hn p h, mid_n p h]
  apply List.ext_getElem
  · rw [slotsAt_length]
  · intro j h1 h2
    simp only [slotsAt, List.getElem_map, List.getElem_range]
    exact mid_slot p h j h2

theorem mid_parsed (h : p.Fits) : parsed (midB p) = p := by
  unfold parsed
  rw [mid_num p h, mid_lsn p h, mid_kind p h, mid_head p h, mid_slots p h, bytes_self, Int.toNat_of_nonneg h.kind0]

theorem mid_ok (h : p.Fits) : parseOk (midB p) := by
  have hf := h.fits
  refine ⟨⟨by rw [mid_hn p h]; exact h.head, by rw [mid_n p h]; exact h.len, by rw [mid_poff p h]; omega⟩, ?_⟩
  rw [mid_poff p h, part_at (pre := putL p.lsn 8 ++ putL p.num 4 ++ putL p.kind.toNat 1 ++ putL p.head.size 1 ++ p.head.data.toList ++ putL p.slots.length 1 ++ slotLens p.slots ++ slotBytes p.slots)
    (mid := zerosL p) (post := []) (by rw [mid_data, List.append_nil]; simp only [List.append_assoc])
    (by have := slot_lengths p.slots; simp only [List.length_append, putL_length, head_len]; omega) (by simp [zerosL]; omega)]
  rw [zerosB_iff]; simp [zerosL]

theorem dec_enc (h : p.Fits) : decE ⟨(encL p).toArray⟩ = 0 ∧ decP ⟨(encL p).toArray⟩ = p := by
  have h1 := enc_size p h
  have hz : zerosB (ByteArray.mk (encL p).toArray).data.toList = false := by rw [enc_data]; exact encL_zeros p h
  have hE : decE ⟨(encL p).toArray⟩ = 0 := by
    unfold decE
    rw [if_neg (by omega), if_neg (by omega), if_neg (by rw [hz]; simp), if_neg (by rw [enc_tail p h, enc_lsn p h]; simp), if_neg (by rw [enc_sum p h, enc_rest p h]; simp),
      if_pos (by rw [parseB_iff, enc_cut p h]; exact mid_ok p h)]
  refine ⟨hE, ?_⟩
  unfold decP
  rw [if_pos ⟨hE, hz⟩, enc_cut p h]
  exact mid_parsed p h

end
end Go.Proofs.YtgmfgkdecpldeaaGreat

namespace Go.Proofs.YtgmfgkdecpldeaaGreat
open Go.RowKit Go.Sort
set_option linter.unusedVariables false



end Go.Proofs.YtgmfgkdecpldeaaGreat

namespace Go.Proofs.YtgmfgkdecpldeaaGreat
open Go.RowKit Go.Sort
set_option linter.unusedVariables false

theorem sheet0_val (a : Option Addr) (c : Nat) : sheet0.val a c = .agg #[.int .u32 0, .int .u64 0, .int .i64 0, .string ⟨#[]⟩, .slice a 0 c] := rfl

theorem decode_any (s : ByteArray) (w : World) (hm : s.size ≤ maxLen) :
    Calls Tryz.prog 23 #[.string s] w fun x w' => ∃ a c, x = .returned (.tuple #[(decP s).val a c, .int .i64 (decE s)]) ∧ StrsFrom w.heap.size w' a (decP s).slots ∧ Below w.heap.size w w' := by
  by_cases h1 : s.size < 512
  · have hE : decE s = 4 := by unfold decE; rw [if_pos h1]
    have hP : decP s = sheet0 := by unfold decP; rw [hE, if_neg (by simp)]
    rw [hE, hP]
    exact (dec_short s w h1).mono fun x w' h => ⟨none, 0, h.1, .inl rfl, h.2⟩
  by_cases h2 : 512 < s.size
  · have hE : decE s = 5 := by unfold decE; rw [if_neg h1, if_pos h2]
    have hP : decP s = sheet0 := by unfold decP; rw [hE, if_neg (by simp)]
    rw [hE, hP]
    exact (dec_long s w h2 hm).mono fun x w' h => ⟨none, 0, h.1, .inl rfl, h.2⟩
  have h3 : s.size = 512 := by omega
  by_cases hz : zerosB s.data.toList = true
  · have hE : decE s = 0 := by unfold decE; rw [if_neg h1, if_neg h2, if_pos hz]
    have hP : decP s = sheet0 := by unfold decP; rw [if_neg (by rw [hz]; simp)]
    rw [hE, hP]
    exact (dec_zero s w h3 hz).mono fun x w' h => ⟨none, 0, h.1, .inl rfl, h.2⟩
  by_cases ht : s.extract 504 512 = s.extract 4 12
  · by_cases hs : s.extract 0 4 = ⟨(putL (crcSum 0 (s.extract 4 512).data.toList) 4).toArray⟩
    · by_cases hp : parseOk (cutB s)
      · have hE : decE s = 0 := by unfold decE; rw [if_neg h1, if_neg h2, if_neg hz, if_neg (by simpa using ht), if_neg (by simpa using hs), if_pos ((parseB_iff _).2 hp)]
        have hP : decP s = parsed (cutB s) := by unfold decP; rw [if_pos ⟨hE, by simpa using hz⟩]
        rw [hE, hP]
        refine (dec_parse s w h3 (by simpa using hz) ht hs).mono ?_
        rintro x w' ⟨hb, hy, _⟩
        obtain ⟨a, c, e, hm⟩ := hy hp
        exact ⟨a, c, e, hm.mono (by omega), hb⟩
      · have hE : decE s = 6 := by unfold decE; rw [if_neg h1, if_neg h2, if_neg hz, if_neg (by simpa using ht), if_neg (by simpa using hs), if_neg (by rw [parseB_iff]; exact hp)]
        have hP : decP s = sheet0 := by unfold decP; rw [hE, if_neg (by simp)]
        rw [hE, hP]
        refine (dec_parse s w h3 (by simpa using hz) ht hs).mono ?_
        rintro x w' ⟨hb, _, hn⟩
        obtain ⟨a, c, e⟩ := hn hp
        exact ⟨a, c, e, .inl rfl, hb⟩
    · have hE : decE s = 32 := by unfold decE; rw [if_neg h1, if_neg h2, if_neg hz, if_neg (by simpa using ht), if_pos hs]
      have hP : decP s = sheet0 := by unfold decP; rw [hE, if_neg (by simp)]
      rw [hE, hP]
      exact (dec_sum s w h3 (by simpa using hz) ht hs).mono fun x w' h => ⟨none, 0, h.1, .inl rfl, h.2⟩
  · have hE : decE s = 34 := by unfold decE; rw [if_neg h1, if_neg h2, if_neg hz, if_pos ht]
    have hP : decP s = sheet0 := by unfold decP; rw [hE, if_neg (by simp)]
    rw [hE, hP]
    exact (dec_torn s w h3 (by simpa using hz) ht).mono fun x w' h => ⟨none, 0, h.1, .inl rfl, h.2⟩

/-- The bytes of Encode. -/
def encS (p : SheetV) : ByteArray := if encE p = 0 then ⟨(encL p).toArray⟩ else ⟨#[]⟩

theorem encE_fits {p : SheetV} {w : World} {a : Option Addr} (h : p.Ok w a) : encE p = 0 ↔ p.Fits := by
  unfold encE
  constructor
  · intro e
    split at e
    · cases e
    · split at e
      · cases e
      · rename_i h1 h2
        exact ⟨h.num, h.lsn, by omega, by omega, by omega, by omega, by omega⟩
  · intro f
    have := f.kind0; have := f.kind1; have := f.head; have := f.len; have := f.fits
    rw [if_neg (by omega), if_neg (by omega)]

theorem encode_any (p : SheetV) (a : Option Addr) (c : Nat) (w : World) (h : p.Ok w a) :
    Calls Tryz.prog 47 #[p.val a c] w fun e w' => e = .returned (.tuple #[.string (encS p), .int .i64 (encE p)]) ∧ Below w.heap.size w w' := by
  by_cases h1 : p.kind < 0 ∨ 255 < p.kind ∨ 32 < p.head.size ∨ 64 < p.slots.length
  · have hE : encE p = 1 := by unfold encE; rw [if_pos h1]
    have hS : encS p = ⟨#[]⟩ := by unfold encS; rw [hE]; rfl
    rw [hE, hS]
    exact encode_arg p a c w h h1
  · by_cases h2 : 485 < p.head.size + slotSum p.slots
    · have hE : encE p = 30 := by unfold encE; rw [if_neg h1, if_pos h2]
      have hS : encS p = ⟨#[]⟩ := by unfold encS; rw [hE]; rfl
      rw [hE, hS]
      exact encode_full p a c w h (by omega) (by omega) (by omega) (by omega) h2
    · have hE : encE p = 0 := by unfold encE; rw [if_neg h1, if_neg h2]
      have hS : encS p = ⟨(encL p).toArray⟩ := by unfold encS; rw [if_pos hE]
      rw [hE, hS]
      exact encode_ok p a c w h (by omega) (by omega) (by omega) (by omega) (by omega)

/-- The page of awake. -/
def sheetA : SheetV := ⟨3, 0, 2, ⟨#[]⟩, [⟨#[97]⟩]⟩

theorem sheetA_fits : sheetA.Fits := ⟨by decide, by decide, by decide, by decide, by decide, by decide, by decide⟩



end Go.Proofs.YtgmfgkdecpldeaaGreat
