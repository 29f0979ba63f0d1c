/-
  A log by its records: where they stand, what they are; and the walks of Get and Back over such a log.
-/
import Derived.Test.YtlphebebnjcidaaGreatWalFrameJ
import Derived.Test.YtlphebebnjcidaaGreatDiskLogC
set_option linter.unusedVariables false
set_option linter.unusedSimpArgs false
namespace Go.Proofs.YtlphebebnjcidaaGreat
open Go.RowKit

def placeOf (rs : List ByteArray) : Nat → Nat
  | 0 => 1
  | i + 1 => placeOf rs i + ((rs.getD i ⟨#[]⟩).size + 12)

structure RecsAt (l : LG) (rs : List ByteArray) : Prop where
  starts : l.starts = (List.range rs.length).map (placeOf rs)
  long : l.bytes.length + 1 = placeOf rs rs.length
  text : ∀ i, i < rs.length → (l.bytes.drop (placeOf rs i + 7)).take (rs.getD i ⟨#[]⟩).size = (rs.getD i ⟨#[]⟩).data.toList

theorem placeOf_snoc (rs : List ByteArray) (r : ByteArray) : ∀ i, i ≤ rs.length → placeOf (rs ++ [r]) i = placeOf rs i
  | 0, _ => rfl
  | i + 1, h => by
    have e : (rs ++ [r]).getD i ⟨#[]⟩ = rs.getD i ⟨#[]⟩ := by
      rw [List.getD_eq_getElem?_getD, List.getD_eq_getElem?_getD, List.getElem?_append_left (by omega)]
    show placeOf (rs ++ [r]) i + _ = placeOf rs i + _
    rw [placeOf_snoc rs r i (by omega), e]

theorem getD_last (rs : List ByteArray) (r : ByteArray) : (rs ++ [r]).getD rs.length ⟨#[]⟩ = r := by
  rw [List.getD_eq_getElem?_getD, List.getElem?_append_right (Nat.le_refl _)]
  simp

theorem placeOf_pos (rs : List ByteArray) : ∀ i, 1 ≤ placeOf rs i
  | 0 => Nat.le_refl _
  | i + 1 => by
    have := placeOf_pos rs i
    show 1 ≤ placeOf rs i + _
    omega

theorem placeOf_mono (rs : List ByteArray) {i j : Nat} (h : i ≤ j) : placeOf rs i + 12 * (j - i) ≤ placeOf rs j := by
  induction h with
  | refl => simp
  | step h ih =>
    rename_i m
    have h' : i ≤ m := h
    show _ ≤ placeOf rs m + (_ + 12)
    omega

theorem RecsAt.nil (p : Nat) : RecsAt (log0 p) [] := ⟨rfl, rfl, fun i h => absurd h (Nat.not_lt_zero _)⟩

theorem frame_text (a : Nat) (r : List UInt8) : ((frameL a r).drop 8).take r.length = r := by
  have e : frameL a r = (putL r.length 4 ++ putL (crcSum 0 (putL a 8 ++ r)) 4) ++ (r ++ putL r.length 4) := by simp [frameL]
  rw [e]
  have e8 : (putL r.length 4 ++ putL (crcSum 0 (putL a 8 ++ r)) 4).length = 8 := by simp [putL_length]
  generalize putL r.length 4 ++ putL (crcSum 0 (putL a 8 ++ r)) 4 = X at e8 ⊢
  rw [← e8, List.drop_left, List.take_left]

theorem RecsAt.snoc {l : LG} {rs : List ByteArray} (h : RecsAt l rs) (r : ByteArray) : RecsAt (putG l r) (rs ++ [r]) := by
  have hl := h.long
  refine ⟨?_, ?_, ?_⟩
  · show l.starts ++ [l.bytes.length + 1] = _
    rw [List.length_append, List.length_singleton, List.range_succ, List.map_append, List.map_singleton, placeOf_snoc rs r _ (Nat.le_refl _), hl, h.starts]
    congr 1
    apply List.map_congr_left
    intro i hi
    rw [placeOf_snoc rs r i (Nat.le_of_lt (List.mem_range.1 hi))]
  · show (l.bytes ++ frameL _ _).length + 1 = placeOf (rs ++ [r]) (rs ++ [r]).length
    rw [List.length_append, List.length_append, List.length_singleton, frameL_length]
    show _ = placeOf (rs ++ [r]) rs.length + (((rs ++ [r]).getD rs.length ⟨#[]⟩).size + 12)
    rw [placeOf_snoc rs r _ (Nat.le_refl _), getD_last, ← hl]
    simp
    omega
  · intro i hi
    rw [List.length_append, List.length_singleton] at hi
    show ((l.bytes ++ frameL (l.bytes.length + 1) r.data.toList).drop _).take _ = _
    by_cases hn : i = rs.length
    · subst hn
      rw [getD_last, placeOf_snoc rs r _ (Nat.le_refl _), ← hl, show l.bytes.length + 1 + 7 = l.bytes.length + 8 by omega, List.drop_append, List.drop_of_length_le (by omega), List.nil_append, show l.bytes.length + 8 - l.bytes.length = 8 by omega]
      have := frame_text (l.bytes.length + 1) r.data.toList
      simpa using this
    · have hi' : i < rs.length := by omega
      have e : (rs ++ [r]).getD i ⟨#[]⟩ = rs.getD i ⟨#[]⟩ := by
        rw [List.getD_eq_getElem?_getD, List.getD_eq_getElem?_getD, List.getElem?_append_left hi']
      have hm := placeOf_mono rs (i := i + 1) (j := rs.length) (by omega)
      have hs : placeOf rs (i + 1) = placeOf rs i + ((rs.getD i ⟨#[]⟩).size + 12) := rfl
      have hp := placeOf_pos rs i
      rw [e, placeOf_snoc rs r i (by omega), List.drop_append_of_le_length (by omega), List.take_append_of_le_length (by rw [List.length_drop]; omega)]
      exact h.text i hi'

theorem RecsAt.len {l : LG} {rs : List ByteArray} (h : RecsAt l rs) : l.starts.length = rs.length := by rw [h.starts]; simp

theorem RecsAt.at {l : LG} {rs : List ByteArray} (h : RecsAt l rs) {i : Nat} (hi : i < rs.length) : l.starts.getD i 0 = placeOf rs i := by
  rw [h.starts, List.getD_eq_getElem?_getD]
  simp [hi]

theorem RecsAt.rising {l : LG} {rs : List ByteArray} (h : RecsAt l rs) : Rising l.starts := by
  intro a b hab hb
  rw [h.len] at hb
  rw [h.at hb, h.at (by omega)]
  have := placeOf_mono rs (Nat.le_of_lt hab)
  omega

end Go.Proofs.YtlphebebnjcidaaGreat

namespace Go.Proofs.YtlphebebnjcidaaGreat
open Go.RowKit

section
variable {w : World} {p : Nat} {S : Nat → Prop} {l : LG} {rs : List ByteArray}

theorem IsLog.lastStart (h : IsLog w p S l) : ∃ sa sc, w.cell? ⟨p, 2, none⟩ = some (.slice sa l.starts.length sc) ∧ (∀ j, j < l.starts.length → ∃ g, sa = some ⟨g, 0, none⟩ ∧ w.cell? ⟨g, j, none⟩ = some (.int .u64 (l.starts.getD j 0 : Nat))) := by
  obtain ⟨bv, sv, hL, _⟩ := h
  have ho := hL.starts
  rcases ho.2 with ⟨e1, e2⟩ | ⟨g, cap, cur, e1, _⟩
  · refine ⟨none, 0, by rw [e2]; rw [← e1]; exact hL.cells.c2, fun j hj => by omega⟩
  · refine ⟨some ⟨g, 0, none⟩, cap, by rw [← e1]; exact hL.cells.c2, fun j hj => ⟨g, rfl, ?_⟩⟩
    rw [e1] at ho
    have := owns_cells ho j (.int .u64 (l.starts.getD j 0 : Nat)) (by simp [lsnCells, hj])
    simpa [Addr.add_lit] using this

set_option maxHeartbeats 400000 in
set_option maxRecDepth 8000 in
theorem get_mid (h : IsLog w p S l) (hr : Rising l.starts) (hn : l.starts.length ≤ 10000000) (hb : l.bytes.length ≤ 4194304) (i x B : Nat) (hi : i + 1 < l.starts.length) (hx : l.starts.getD i 0 = x) (h1 : 1 ≤ x) (h2 : x + 12 ≤ B) (h3 : B = l.starts.getD (i + 1) 0) (h4 : B ≤ l.bytes.length + 1) :
    Calls Tryz.prog 17 #[.pointer (some ⟨p, 0, none⟩), .int .u64 x] w fun e w' => e = .returned (.tuple #[.string (recB l x B), .int .u64 (B : Nat), .bool true]) ∧ ∃ q, w' = w.drewN q := by
  obtain ⟨sa, sc, c2, hst⟩ := h.lastStart
  obtain ⟨sg, hsa, hcell⟩ := hst (i + 1) hi
  rw [← h3] at hcell
  subst hsa
  clear hst
  go_enter Tryz.func17, Tryz.ntmps17
  go_wp2_with fail
  refine (find_out h hr hn x).mono ?_
  rintro e w1 ⟨⟨i', b, rfl, hf⟩, q, rfl⟩
  obtain ⟨rfl, rfl⟩ := hf.here hr (by omega) hx
  have hD : IsLog (w.drewN q) p S l := h.same (fun _ _ => rfl) (Nat.le_refl _)
  go_wp2_with fail
  refine (end_out hD hb).mono ?_
  rintro e w1 ⟨rfl, rfl⟩
  obtain ⟨bv, sv, hL, _⟩ := h
  have c1 := hL.cells.c1
  rcases hL.bytes with ⟨e1, e2⟩ | ⟨g, cap, cur, fz, e1, hg, hfz, hlc, hcm, hcs, htk⟩
  · exfalso
    rw [e2] at h4
    simp at h4
    omega
  have hrow := hL.bytes
  rw [e1] at hrow c1
  clear hL
  have k1 : ((i' : Int) + 1 < (l.starts.length : Int)) ↔ True := by simp; omega
  have k2 : ((i' : Int) + 1).toNat = i' + 1 := by omega
  have hcv := ByteRow.text (w := w.drewN q) (hrow.same fun _ _ => rfl) (x - 1 + 8) (B - 1 - (x - 1) - 4 - 8) (cap - (x - 1) - 8) (by omega)
  have HE : Hid (ByteArray.mk ((l.bytes.drop (x - 1 + 8)).take (B - 1 - (x - 1) - 4 - 8)).toArray = recB l x B) := by
    unfold recB
    rw [show x - 1 + 8 = x + 7 by omega, show B - 1 - (x - 1) - 4 - 8 = B - x - 12 by omega]
    exact rfl
  rw [HE.out] at hcv
  clear hrow h3
  go_wp2
  go_ret3
  exact ⟨rfl, q, rfl⟩

theorem RecsAt.recB {l : LG} {rs : List ByteArray} (h : RecsAt l rs) {i : Nat} (hi : i < rs.length) : recB l (placeOf rs i) (placeOf rs (i + 1)) = rs.getD i ⟨#[]⟩ := by
  have hs : placeOf rs (i + 1) = placeOf rs i + ((rs.getD i ⟨#[]⟩).size + 12) := rfl
  unfold Go.Proofs.YtlphebebnjcidaaGreat.recB
  rw [show placeOf rs (i + 1) - placeOf rs i - 12 = (rs.getD i ⟨#[]⟩).size by omega, h.text i hi]

theorem RecsAt.le {l : LG} {rs : List ByteArray} (h : RecsAt l rs) {i : Nat} (hi : i < rs.length) : placeOf rs i + 12 ≤ placeOf rs (i + 1) ∧ placeOf rs (i + 1) ≤ l.bytes.length + 1 := by
  have hs : placeOf rs (i + 1) = placeOf rs i + ((rs.getD i ⟨#[]⟩).size + 12) := rfl
  have := placeOf_mono rs (i := i + 1) (j := rs.length) (by omega)
  rw [h.long]
  omega

theorem get_recs (h : IsLog w p S l) (hR : RecsAt l rs) (hn : rs.length ≤ 10000000) (hb : l.bytes.length ≤ 4194304) (i : Nat) (hi : i < rs.length) :
    Calls Tryz.prog 17 #[.pointer (some ⟨p, 0, none⟩), .int .u64 (placeOf rs i : Nat)] w fun e w' => e = .returned (.tuple #[.string (rs.getD i ⟨#[]⟩), .int .u64 (placeOf rs (i + 1) : Nat), .bool true]) ∧ ∃ q, w' = w.drewN q := by
  have hl := hR.len
  have e := hR.le hi
  have e2 := hR.recB hi
  by_cases hi1 : i + 1 < rs.length
  · have := get_mid h hR.rising (by omega) hb i (placeOf rs i) (placeOf rs (i + 1)) (by omega) (hR.at hi) (placeOf_pos rs i) e.1 (hR.at hi1).symm e.2
    rw [e2] at this
    exact this
  · have hi2 : i + 1 = rs.length := by omega
    have := get_last h hR.rising (by omega) hb i (placeOf rs i) (placeOf rs (i + 1)) (by omega) (hR.at hi) (placeOf_pos rs i) e.1 (by rw [hi2]; exact hR.long.symm)
    rw [e2] at this
    exact this

end

end Go.Proofs.YtlphebebnjcidaaGreat

namespace Go.Proofs.YtlphebebnjcidaaGreat
open Go.RowKit

def keepTo (l : List LW) (u : (Nat → ByteArray) × Nat) : Nat → (Nat → ByteArray) × Nat
  | 0 => u
  | n + 1 => match l[n]? with
    | some x => (keepF x (keepTo l u n).1, keepM x (keepTo l u n).2)
    | none => keepTo l u n

theorem keepTo_succ {l : List LW} {u : (Nat → ByteArray) × Nat} {n : Nat} {x : LW} (h : l[n]? = some x) : keepTo l u (n + 1) = (keepF x (keepTo l u n).1, keepM x (keepTo l u n).2) := by
  simp only [keepTo, h]

def syncD (d : DG) : DG :=
  { d with calls := d.calls + 1, sure := (keepTo d.loose (d.sure, d.sm) d.loose.length).1, sm := (keepTo d.loose (d.sure, d.sm) d.loose.length).2, mark := (keepTo d.loose (d.sure, d.sm) d.loose.length).2,
           loose := [], fresh := fun _ => none, nS := d.nS + d.loose.length, nF := 0 }

section
variable {w : World} {p : Nat} {S : Nat → Prop} {d : DG}

set_option maxHeartbeats 1600000 in
set_option maxRecDepth 8000 in
theorem sync_out (h : IsDisk w p S d) (hd : d.dead = false) (hl : d.plan = []) (hn : d.calls ≤ 1000000) (hok : d.ok) :
    Calls Tryz.prog 47 #[.pointer (some ⟨p, 0, none⟩)] w fun x w' => x = .returned (.int .i64 0) ∧ ∃ S', IsDisk w' p S' (syncD d) ∧ Moves S S' w w' := by
  obtain ⟨m, hD, hS, _⟩ := h
  have HD : Hid (DiskAt w p m d) := hD
  have HS : Hid (∀ k, m.has p k → S k) := hS
  clear hD hS
  obtain ⟨a, cap, e, hA⟩ : ∃ a cap, m.looseV = .slice a d.loose.length cap ∧ (a = none ∧ d.loose.length = 0 ∨ ∃ g, a = some ⟨g, 0, none⟩ ∧ d.loose.length ≤ cap ∧ cap ≤ 9223372036854775807) := by
    rcases HD.out.parts.loose.2 with ⟨e1, e2⟩ | ⟨g', cap', cur', e1, h0, hb, h1, h2, h3, h4⟩
    · exact ⟨none, 0, by rw [e1, e2], .inl ⟨rfl, e2⟩⟩
    · exact ⟨_, _, e1, .inr ⟨g', rfl, h1, by unfold maxLen at h2; omega⟩⟩
  have HA : Hid (a = none ∧ d.loose.length = 0 ∨ ∃ g, a = some ⟨g, 0, none⟩ ∧ d.loose.length ≤ cap ∧ cap ≤ 9223372036854775807) := hA
  clear hA
  go_enter Tryz.func47, Tryz.ntmps47
  go_wp2_with fail
  refine (dead_any HD.out.blk.cells).mono ?_
  rintro x w1 ⟨rfl, rfl⟩
  rw [hd]
  go_wp2_with fail
  refine (powered_none HD.out hl hn).mono ?_
  rintro x w2 ⟨rfl, hD1, hK1⟩
  have HD1 : Hid (DiskAt w2 p m { d with calls := d.calls + 1 }) := hD1
  have HK1 : Hid (Kept (fun k => k = p) w1 w2) := hK1
  clear hD1 hK1
  have c6 := HD1.out.blk.cells.c6
  rw [e] at c6
  go_wp2
  go_loopw [17] (fun i wr => ∃ k : Nat, k ≤ d.loose.length ∧ i = .int .i64 k ∧
      Hid (DiskAt wr p m { d with calls := d.calls + 1, sure := (keepTo d.loose (d.sure, d.sm) k).1, sm := (keepTo d.loose (d.sure, d.sm) k).2, nS := d.nS + k }) ∧
      Hid (Kept (fun k => k = p ∨ k = m.sure) w1 wr)) (fun i _ => d.loose.length - (intOf i).toNat)
  case atStart => exact ⟨0, Nat.zero_le _, rfl, HD1.out, HK1.out.mono fun _ x => .inl x⟩
  case round =>
    obtain ⟨k, hk, rfl, HDr, HKr⟩ := hrel
    by_cases hlt : k < d.loose.length
    · obtain ⟨g, hg, h1, h2⟩ : ∃ g, a = some ⟨g, 0, none⟩ ∧ d.loose.length ≤ cap ∧ cap ≤ 9223372036854775807 := by
        rcases HA.out with ⟨_, h⟩ | h
        · omega
        · exact h
      subst hg
      obtain ⟨x, hx⟩ : ∃ x, d.loose[k]? = some x := ⟨_, List.getElem?_eq_getElem hlt⟩
      have hown' := HDr.out.parts.loose
      rw [e] at hown'
      have q0 := owns_cells hown' (k * 3 + 0) _ (wcells_get _ k x hx 0 (by omega))
      have q1 := owns_cells hown' (k * 3 + 1) _ (wcells_get _ k x hx 1 (by omega))
      have q2 := owns_cells hown' (k * 3 + 2) _ (wcells_get _ k x hx 2 (by omega))
      rw [Nat.add_zero] at q0
      have hlw : p < wr.heap.size := HDr.out.lt
      have hlg : g < wr.heap.size := by obtain ⟨cur', hb'⟩ := owns_block hown' rfl; exact hb'.lt
      have hxo := hok.loose x (List.mem_of_getElem? hx)
      obtain ⟨pg, s, mk⟩ := x
      have HX : Hid (d.loose[k]? = some ⟨pg, s, mk⟩) := hx
      clear hx hown'
      have hki : (k : Int) < d.loose.length := by omega
      have hB : Hid (Below wr.heap.size wr (wr.alloc (.cells #[.int .u32 pg, .string s, .int .u64 mk] 152))) := (Below.refl _ _).alloc (Nat.le_refl _) _
      go_wp2_with fail
      refine (keep_any (HDr.out.below hB.out) ⟨pg, s, mk⟩ hxo.1 hxo.2.1 (by have := hok.n; show d.nS + k ≤ _; omega)).mono ?_
      rintro z w3 ⟨rfl, hd2, hk2⟩
      have HD2 : Hid (DiskAt w3 p m { d with calls := d.calls + 1, sure := (keepTo d.loose (d.sure, d.sm) (k + 1)).1, sm := (keepTo d.loose (d.sure, d.sm) (k + 1)).2, nS := d.nS + (k + 1) }) := by
        rw [keepTo_succ HX.out]; exact hd2
      have HK2 : Hid (Kept (fun k => k = p ∨ k = m.sure) w1 w3) := HKr.out.trans ((Kept.of_below hB.out).trans hk2)
      clear hd2 hk2 hB
      go_wp2
      go_roundw
      case rel => exact ⟨k + 1, by omega, by go_num, HD2, HK2⟩
      case measure => simp [intOf]; omega
    · have hkn : k = d.loose.length := by omega
      subst hkn
      go_wp2_with fail
      refine (settle_any HDr.out).mono ?_
      rintro z w3 ⟨rfl, ⟨b2, hd2, hb2⟩, hk2⟩
      have hsz := HKr.out.size
      have HF : Hid (∃ S', IsDisk w3 p S' (syncD d) ∧ Moves S S' w1 w3) := by
        refine moved HD.out HS.out hd2 ?_ (HKr.out.trans (hk2.mono fun _ x => .inl x)) fun k x => by
          rcases x with x | x
          · exact .inl x
          · exact .inr (.inl x)
        rintro k (x | x | x | x | x)
        · exact .inl (.inl x)
        · right; simp only at x; omega
        · cases x
        · exact .inl (.inr (.inr (.inr (.inl x))))
        · exact .inl (.inr (.inr (.inr (.inr x))))
      clear hd2 hk2
      go_wp2
      go_ret
      exact ⟨rfl, HF.out⟩

end

end Go.Proofs.YtlphebebnjcidaaGreat

namespace Go.Proofs.YtlphebebnjcidaaGreat
open Go.RowKit

section
variable {w : World} {p : Nat} {S : Nat → Prop} {d : DG}

theorem mark_out (h : IsDisk w p S d) (hd : d.dead = false) :
    Calls Tryz.prog 92 #[.pointer (some ⟨p, 0, none⟩)] w fun x w' => x = .returned (.tuple #[.int .u64 d.mark, .int .i64 0]) ∧ w' = w := by
  obtain ⟨m, hD, _⟩ := h
  have c8 := hD.blk.cells.c8
  have HD := hid hD
  clear hD
  go_enter Tryz.func92, Tryz.ntmps92
  go_wp2_with fail
  refine (dead_any HD.out.blk.cells).mono ?_
  rintro x w1 ⟨rfl, rfl⟩
  rw [hd]
  go_wp2
  go_ret2
  exact ⟨rfl, rfl⟩

end

section
variable {w : World} {p : Nat} {S : Nat → Prop} {l : LG} {rs : List ByteArray}

set_option maxHeartbeats 400000 in
set_option maxRecDepth 8000 in
theorem master_out {D : Nat → Prop} {d : DG} (h : IsLog w p S l) (hd : IsDisk w l.dp D d) (h1 : d.dead = false) (hr : Rising l.starts) (hn : l.starts.length ≤ 10000000) (v : Nat) (hv : (v = d.mark ∧ ∃ j, j < l.starts.length ∧ l.starts.getD j 0 = d.mark) ∨ (v = 0 ∧ ∀ j, j < l.starts.length → l.starts.getD j 0 ≠ d.mark)) :
    Calls Tryz.prog 51 #[.pointer (some ⟨p, 0, none⟩)] w fun e w' => e = .returned (.int .u64 (v : Nat)) ∧ ∃ q, w' = w.drewN q := by
  have c0 := h.c0
  have HM := hid (mark_out hd h1)
  have HF := hid (find_out h hr hn d.mark)
  rcases hv with ⟨rfl, j, hj, hx⟩ | ⟨rfl, hx⟩
  · have HH : Hid (∀ i b, Found l.starts d.mark i b → b = true) := fun i b hf => (hf.here hr hj hx).2
    go_enter Tryz.func51, Tryz.ntmps51
    go_wp2_with fail
    refine HM.out.mono ?_
    rintro e w1 ⟨rfl, rfl⟩
    go_wp2_with fail
    refine HF.out.mono ?_
    rintro e w2 ⟨⟨i, b, rfl, hf⟩, q, rfl⟩
    obtain rfl := HH.out i b hf
    clear hf
    go_wp2
    go_ret
    exact ⟨rfl, q, rfl⟩
  · have HH : Hid (∀ i b, Found l.starts d.mark i b → b = false) := fun i b hf => by
      rw [hf.2.2.2]
      exact decide_eq_false fun k => hx i k.1 k.2
    go_enter Tryz.func51, Tryz.ntmps51
    go_wp2_with fail
    refine HM.out.mono ?_
    rintro e w1 ⟨rfl, rfl⟩
    go_wp2_with fail
    refine HF.out.mono ?_
    rintro e w2 ⟨⟨i, b, rfl, hf⟩, q, rfl⟩
    obtain rfl := HH.out i b hf
    clear hf
    go_wp2
    go_ret
    exact ⟨rfl, q, rfl⟩

end

end Go.Proofs.YtlphebebnjcidaaGreat
