/-
  The walk of fail: which loose writes stay.
-/
import Derived.Test.YtgmfgkdecpldeaaGreatDiskTornC
import Derived.StillTailTactics
namespace Go.Proofs.YtgmfgkdecpldeaaGreat
open Go.RowKit
set_option linter.unusedVariables false

/-- Bit i modulo 64. -/
def bitB (keep i : Nat) : Bool := decide (keep / 2 ^ (i % 64) % 2 = 1)

def failStep (f : FG) (i : Nat) (x : LW) (u : (Nat → ByteArray) × Nat) : (Nat → ByteArray) × Nat :=
  if (i : Int) + 1 = f.torn then (keepPartF x f.bytes u.1, u.2) else if bitB f.keep i then (keepF x u.1, keepM x u.2) else u

/-- What is sure behind the first n loose writes. -/
def failTo (f : FG) (l : List LW) (u : (Nat → ByteArray) × Nat) : Nat → (Nat → ByteArray) × Nat
  | 0 => u
  | n + 1 => match l[n]? with
    | some x => failStep f n x (failTo f l u n)
    | none => failTo f l u n

theorem failTo_succ {f : FG} {l : List LW} {u : (Nat → ByteArray) × Nat} {n : Nat} {x : LW} (h : l[n]? = some x) : failTo f l u (n + 1) = failStep f n x (failTo f l u n) := by
  simp only [failTo, h]

/-- A write that may stand among the loose ones. -/
def LW.ok (x : LW) : Prop := x.page < 4294967296 ∧ x.s.size ≤ 512 ∧ (x.page ≠ 0 → x.s.size = 512)

theorem keepF_size {x : LW} (hx : x.ok) {f : Nat → ByteArray} (hf : ∀ q, (f q).size = 512) (q : Nat) : (keepF x f q).size = 512 := by
  unfold keepF
  by_cases h0 : x.page = 0
  · rw [if_pos h0]; exact hf q
  · rw [if_neg h0]
    by_cases h1 : q = x.page
    · simp only [if_pos h1]; exact hx.2.2 h0
    · simp only [if_neg h1]; exact hf q

theorem keepPartF_size {x : LW} (hx : x.ok) {n : Int} {f : Nat → ByteArray} (hf : ∀ q, (f q).size = 512) (q : Nat) : (keepPartF x n f q).size = 512 := by
  unfold keepPartF
  by_cases h0 : x.page = 0
  · rw [if_pos h0]; exact hf q
  · rw [if_neg h0]
    by_cases h1 : q = x.page
    · simp only [if_pos h1]; exact mix_size (tornN_le n) (hx.2.2 h0) (hf _)
    · simp only [if_neg h1]; exact hf q

theorem failTo_size {f : FG} {l : List LW} (hl : ∀ x ∈ l, x.ok) {u : (Nat → ByteArray) × Nat} (hu : ∀ q, (u.1 q).size = 512) (n q : Nat) : ((failTo f l u n).1 q).size = 512 := by
  induction n generalizing q with
  | zero => exact hu q
  | succ n ih =>
    cases h : l[n]? with
    | none => simp only [failTo, h]; exact ih q
    | some x =>
      rw [failTo_succ h]
      have hx := hl x (List.mem_of_getElem? h)
      unfold failStep
      by_cases c : (n : Int) + 1 = f.torn
      · rw [if_pos c]; exact keepPartF_size hx (fun q => ih q) q
      · rw [if_neg c]
        by_cases c2 : bitB f.keep n
        · rw [if_pos c2]; exact keepF_size hx (fun q => ih q) q
        · rw [if_neg c2]; exact ih q

/-- How many loose bytes of the log stay. -/
def logN (d : DG) (n : Int) : Nat := d.sl + (min (max n 0) ((d.log.length : Int) - d.sl)).toNat

/-- The disk behind a fall. -/
def failD (f : FG) (d : DG) : DG :=
  { d with sure := (failTo f d.loose (d.sure, d.sm) d.loose.length).1, sm := (failTo f d.loose (d.sure, d.sm) d.loose.length).2, mark := (failTo f d.loose (d.sure, d.sm) d.loose.length).2,
           loose := [], fresh := fun _ => none, nS := d.nS + d.loose.length, nF := 0, log := d.log.take (logN d f.log), sl := logN d f.log, dead := true }

structure DG.ok (d : DG) : Prop where
  loose : ∀ x ∈ d.loose, x.ok
  sure : ∀ q, (d.sure q).size = 512
  n : d.nS + d.loose.length ≤ 1000000
  log : d.log.length ≤ 4194304
  sl : d.sl ≤ d.log.length

theorem wcells_get (l : List LW) (i : Nat) (x : LW) (h : l[i]? = some x) (j : Nat) (hj : j < 3) : (l.flatMap wcells)[i * 3 + j]? = (wcells x)[j]? := by
  induction l generalizing i with
  | nil => simp at h
  | cons a l ih =>
    cases i with
    | zero =>
      simp only [List.getElem?_cons_zero, Option.some.injEq] at h
      subst h
      simp only [List.flatMap_cons, Nat.zero_mul, Nat.zero_add]
      rw [List.getElem?_append_left (by simpa [wcells] using hj)]
    | succ i =>
      simp only [List.getElem?_cons_succ] at h
      simp only [List.flatMap_cons]
      rw [List.getElem?_append_right (by simp [wcells]; omega)]
      have : (i + 1) * 3 + j - (wcells a).length = i * 3 + j := by simp [wcells]; omega
      rw [this]
      exact ih i h

theorem owns_cells {w : World} {e : TypeId} {z n : Nat} {g cap : Nat} {xs : List Value} (h : w.ownsRow 0 e z (.slice (some ⟨g, 0, none⟩) n cap) n xs) (k : Nat) (u : Value) (hk : xs[k]? = some u) : w.cell? ⟨g, k, none⟩ = some u := by
  rcases h.2 with ⟨e, _⟩ | ⟨g', c', cur, e, h0, hb, h1, h2, h3, h4⟩
  · cases e
  · cases e
    have hb' : Blk w g cur e := hb
    rw [hb'.cell k]
    rw [← h4, List.getElem?_take] at hk
    split at hk
    · simpa using hk
    · cases hk

theorem bit_test {f : Nat} (hf : f < 18446744073709551616) (k : Nat) : (bits .and .u64 ((f : Int) / 2 ^ (k % 64)) 1 == 1) = bitB f k := by
  have e : (f : Int) / 2 ^ (k % 64) = ((f / 2 ^ (k % 64) : Nat) : Int) := by simp
  have h1 := u64_and_nat (f / 2 ^ (k % 64)) 1 (Nat.lt_of_le_of_lt (Nat.div_le_self _ _) hf) (by omega)
  rw [show ((1 : Nat) : Int) = 1 from rfl] at h1
  rw [e, h1, nat_mask1]
  unfold bitB
  rw [Bool.eq_iff_iff, beq_iff_eq, decide_eq_true_eq]
  omega

section
variable {w : World} {p : Nat} {m : Mem} {d : DG}

set_option maxHeartbeats 1600000 in
set_option maxRecDepth 8000 in
theorem dfail_any (hD : DiskAt w p m d) (hok : d.ok) (f : FG) (hf : f.keep < 18446744073709551616) :
    Calls Tryz.prog 52 #[.pointer (some ⟨p, 0, none⟩), .agg (fcells f).toArray] w fun e w' => e = .returned (.tuple #[]) ∧
      (∃ m', DiskAt w' p m' (failD f d) ∧ ∀ k, m'.rest k → m.rest k ∨ w.heap.size ≤ k) ∧ Kept (fun k => k = p ∨ k = m.sure) w w' := by
  have c6 := hD.blk.cells.c6
  have hlt := hD.lt
  have hms : m.sure < w.heap.size := hD.rest_lt (.inl rfl)
  have hown := hD.parts.loose
  obtain ⟨f1, f2, f3, f4, f5⟩ := f
  unfold fcells
  simp only at hf ⊢
  obtain ⟨a, cap, e, hA⟩ : ∃ a cap, m.looseV = .slice a d.loose.length cap ∧ (a = none ∧ d.loose.length = 0 ∨ ∃ g, a = some ⟨g, 0, none⟩ ∧ d.loose.length ≤ cap ∧ cap ≤ 9223372036854775807) := by
    rcases hown.2 with ⟨e1, e2⟩ | ⟨g', cap', cur', e1, h0, hb, h1, h2, h3, h4⟩
    · exact ⟨none, 0, by rw [e1, e2], .inl ⟨rfl, e2⟩⟩
    · exact ⟨_, _, e1, .inr ⟨g', rfl, h1, by unfold maxLen at h2; omega⟩⟩
  rw [e] at c6
  have HA : Hid (a = none ∧ d.loose.length = 0 ∨ ∃ g, a = some ⟨g, 0, none⟩ ∧ d.loose.length ≤ cap ∧ cap ≤ 9223372036854775807) := hA
  clear hA
  go_enter Tryz.func52, Tryz.ntmps52
  go_wp2
  go_loopw [11] (fun i wr => ∃ k : Nat, k ≤ d.loose.length ∧ i = .int .i64 k ∧
      Hid (DiskAt wr p m { d with sure := (failTo ⟨f1, f2, f3, f4, f5⟩ d.loose (d.sure, d.sm) k).1, sm := (failTo ⟨f1, f2, f3, f4, f5⟩ d.loose (d.sure, d.sm) k).2, nS := d.nS + k }) ∧
      Hid (Blk wr w.heap.size #[.int .i64 f1, .int .u64 f2, .int .i64 f3, .int .i64 f4, .int .i64 f5] 38) ∧ Hid (Kept (fun k => k = p ∨ k = m.sure) w wr)) (fun i _ => d.loose.length - (intOf i).toNat)
  case atStart =>
    have hB : Below w.heap.size w (w.alloc (.cells #[.int .i64 f1, .int .u64 f2, .int .i64 f3, .int .i64 f4, .int .i64 f5] 38)) := (Below.refl _ _).alloc (Nat.le_refl _) _
    exact ⟨0, Nat.zero_le _, rfl, hD.below hB, Blk.made _ _ _, Kept.of_below hB⟩
  case round =>
    obtain ⟨k, hk, rfl, HD, HB, HK⟩ := hrel
    clear hD hown
    by_cases hlt : k < d.loose.length
    · obtain ⟨g, hg, h1, h2⟩ : ∃ g, a = some ⟨g, 0, none⟩ ∧ d.loose.length ≤ cap ∧ cap ≤ 9223372036854775807 := by
        rcases HA.out with ⟨_, h⟩ | h
        · omega
        · exact h
      subst hg
      obtain ⟨x, hx⟩ : ∃ x, d.loose[k]? = some x := ⟨_, List.getElem?_eq_getElem hlt⟩
      have hown' := HD.out.parts.loose
      rw [e] at hown'
      have q0 := owns_cells hown' (k * 3 + 0) _ (wcells_get _ k x hx 0 (by omega))
      have q1 := owns_cells hown' (k * 3 + 1) _ (wcells_get _ k x hx 1 (by omega))
      have q2 := owns_cells hown' (k * 3 + 2) _ (wcells_get _ k x hx 2 (by omega))
      rw [Nat.add_zero] at q0
      have r1 := HB.out.cell 1
      have r2 := HB.out.cell 2
      have r3 := HB.out.cell 3
      have hlw : p < wr.heap.size := HD.out.lt
      have hlb : w.heap.size < wr.heap.size := HB.out.lt
      have hlg : g < wr.heap.size := by obtain ⟨cur', hb'⟩ := owns_block hown' rfl; exact hb'.lt
      simp only [List.getElem?_toArray, List.getElem?_cons_zero, List.getElem?_cons_succ] at r1 r2 r3
      have hxo := hok.loose x (List.mem_of_getElem? hx)
      obtain ⟨pg, s, mk⟩ := x
      have HX : Hid (d.loose[k]? = some ⟨pg, s, mk⟩) := hx
      clear hx hown'
      have hki : (k : Int) < d.loose.length := by omega
      by_cases ht : (k : Int) + 1 = f3
      · have hB : Hid (Below wr.heap.size wr (wr.alloc (.cells #[.int .u32 pg, .string s, .int .u64 mk] 128))) := (Below.refl _ _).alloc (Nat.le_refl _) _
        go_wp2_with fail
        refine (keepPart_any (HD.out.below hB.out) ⟨pg, s, mk⟩ f4 hxo.1 hxo.2.2 (fun q => failTo_size hok.loose hok.sure k q) (by have := hok.n; show d.nS + k ≤ _; omega)).mono ?_
        rintro z w2 ⟨rfl, hd2, hk2⟩
        have HD2 : Hid (DiskAt w2 p m { d with sure := (failTo ⟨f1, f2, f3, f4, f5⟩ d.loose (d.sure, d.sm) (k + 1)).1, sm := (failTo ⟨f1, f2, f3, f4, f5⟩ d.loose (d.sure, d.sm) (k + 1)).2, nS := d.nS + (k + 1) }) := by
          rw [failTo_succ HX.out]; unfold failStep; rw [if_pos ht]; exact hd2
        have HK2 : Hid (Kept (fun k => k = p ∨ k = m.sure) wr w2) := (Kept.of_below hB.out).trans hk2
        have HB2 : Hid (Blk w2 w.heap.size #[.int .i64 f1, .int .u64 f2, .int .i64 f3, .int .i64 f4, .int .i64 f5] 38) := HB.out.same (HK2.out.block _ hlb (by rintro (c | c) <;> omega))
        clear hd2 hk2 hB
        go_wp2
        go_roundw
        case rel => exact ⟨k + 1, by omega, by go_num, HD2, HB2, HK.out.trans HK2.out⟩
        case measure => simp [intOf]; omega
      · have ht' : ((k : Int) + 1 == f3) = false := by simpa using ht
        have hbit := bit_test hf k
        have hB : Hid (Below wr.heap.size wr (wr.alloc (.cells #[.int .u32 pg, .string s, .int .u64 mk] 128))) := (Below.refl _ _).alloc (Nat.le_refl _) _
        cases hbt : bitB f2 k with
        | true =>
          rw [hbt] at hbit
          go_wp2_with fail
          refine (keep_any (HD.out.below hB.out) ⟨pg, s, mk⟩ hxo.1 hxo.2.1 (by have := hok.n; show d.nS + k ≤ _; omega)).mono ?_
          rintro z w2 ⟨rfl, hd2, hk2⟩
          have HD2 : Hid (DiskAt w2 p m { d with sure := (failTo ⟨f1, f2, f3, f4, f5⟩ d.loose (d.sure, d.sm) (k + 1)).1, sm := (failTo ⟨f1, f2, f3, f4, f5⟩ d.loose (d.sure, d.sm) (k + 1)).2, nS := d.nS + (k + 1) }) := by
            rw [failTo_succ HX.out]; unfold failStep; rw [if_neg ht, if_pos hbt]; exact hd2
          have HK2 : Hid (Kept (fun k => k = p ∨ k = m.sure) wr w2) := (Kept.of_below hB.out).trans hk2
          have HB2 : Hid (Blk w2 w.heap.size #[.int .i64 f1, .int .u64 f2, .int .i64 f3, .int .i64 f4, .int .i64 f5] 38) := HB.out.same (HK2.out.block _ hlb (by rintro (c | c) <;> omega))
          clear hd2 hk2 hB
          go_wp2
          go_roundw
          case rel => exact ⟨k + 1, by omega, by go_num, HD2, HB2, HK.out.trans HK2.out⟩
          case measure => simp [intOf]; omega
        | false =>
          rw [hbt] at hbit
          have HD2 : Hid (DiskAt (wr.alloc (.cells #[.int .u32 pg, .string s, .int .u64 mk] 128)) p m { d with sure := (failTo ⟨f1, f2, f3, f4, f5⟩ d.loose (d.sure, d.sm) (k + 1)).1, sm := (failTo ⟨f1, f2, f3, f4, f5⟩ d.loose (d.sure, d.sm) (k + 1)).2, nS := d.nS + (k + 1) }) := by
            rw [failTo_succ HX.out]; unfold failStep; rw [if_neg ht, if_neg (by rw [hbt]; decide)]
            have h3 := HD.out.below hB.out
            obtain ⟨ff, hff, hzz⟩ := h3.parts.sure
            exact ⟨h3.blk, ⟨h3.parts.plan, ⟨ff, hff.mono (Nat.le_succ _), hzz⟩, h3.parts.fresh, h3.parts.ne, h3.parts.loose, h3.parts.log⟩⟩
          have HK2 : Hid (Kept (fun k => k = p ∨ k = m.sure) w (wr.alloc (.cells #[.int .u32 pg, .string s, .int .u64 mk] 128))) := HK.out.trans (Kept.of_below hB.out)
          have HB2 : Hid (Blk (wr.alloc (.cells #[.int .u32 pg, .string s, .int .u64 mk] 128)) w.heap.size #[.int .i64 f1, .int .u64 f2, .int .i64 f3, .int .i64 f4, .int .i64 f5] 38) := HB.out.same (hB.out.block _ hlb)
          clear hB
          go_wp2
          go_roundw
          case rel => exact ⟨k + 1, by omega, by go_num, HD2, HB2, HK2⟩
          case measure => simp [intOf]; omega
    · have hkn : k = d.loose.length := by omega
      subst hkn
      go_wp2_with fail
      refine (settle_any HD.out).mono ?_
      rintro z w2 ⟨rfl, ⟨b2, hd2, hb2⟩, hk2⟩
      have HB2 : Blk w2 w.heap.size #[.int .i64 f1, .int .u64 f2, .int .i64 f3, .int .i64 f4, .int .i64 f5] 38 := HB.out.same (hk2.block _ HB.out.lt (by show ¬ _ = _; omega))
      have r4 := HB2.cell 4
      simp only [List.getElem?_toArray, List.getElem?_cons_zero, List.getElem?_cons_succ] at r4
      have HK2 : Hid (Kept (fun k => k = p ∨ k = m.sure) w w2) := HK.out.trans (hk2.mono fun _ h => .inl h)
      have hsz : wr.heap.size ≤ w2.heap.size := hk2.size
      have hsz2 : w.heap.size ≤ wr.heap.size := HK.out.size
      have hlw : p < w2.heap.size := hd2.lt
      have hl := hok.log
      have hsl := hok.sl
      obtain ⟨a, c, hv⟩ : ∃ a c, m.logV = .slice a d.log.length c := by
        rcases hd2.parts.log.2 with ⟨e1, e2⟩ | ⟨g', cap', cur', e1, _⟩
        · exact ⟨none, 0, by simp only at e1 e2; rw [e1, e2]⟩
        · exact ⟨_, _, e1⟩
      have c9 := hd2.blk.cells.c9
      have c10 := hd2.blk.cells.c10
      simp only at c9 c10
      rw [hv] at c9
      obtain ⟨q, hq⟩ : ∃ q : Nat, min (max f5 0) ((d.log.length : Int) - d.sl) = (q : Int) := ⟨(min (max f5 0) ((d.log.length : Int) - d.sl)).toNat, by omega⟩
      have hq2 : d.sl + q ≤ d.log.length := by omega
      have hq3 : (d.sl : Int) + (q : Int) = ((d.sl + q : Nat) : Int) := by omega
      have HC : Hid (Calls Tryz.prog 89 #[.pointer (some ⟨p, 0, none⟩), .int .i64 ((d.sl : Int) + min (max f5 0) ((d.log.length : Int) - (d.sl : Int)))] w2.drew fun x w' => x = .returned (.tuple #[]) ∧ Hid (∃ m', DiskAt w' p m' { failD ⟨f1, f2, f3, f4, f5⟩ d with dead := d.dead } ∧ ∀ k, m'.rest k → m.rest k ∨ w.heap.size ≤ k) ∧ Hid (Kept (· = p) w2 w')) := by
        rw [hq, hq3]
        refine (cut_any (hd2.below (Below.refl _ _).drew) (d.sl + q) hq2 (by show d.log.length ≤ _; omega)).mono ?_
        rintro x w' ⟨rfl, ⟨v, hdv, hvb⟩, hkv⟩
        have hqn : logN d f5 = d.sl + q := by unfold logN; omega
        refine ⟨rfl, ⟨{ m with looseV := .slice none 0 0, fresh := b2, logV := v }, ?_, ?_⟩, ?_⟩
        · unfold failD
          simp only [hqn]
          exact hdv
        · rintro k (h | h | h | h | h)
          · exact .inl (.inl h)
          · right; simp only at h; omega
          · cases h
          · simp only at h hvb
            rcases hvb with hvb | hvb
            · rw [hvb] at h; cases h
            · rw [hvb] at h; exact .inl (.inr (.inr (.inr (.inl h))))
          · exact .inl (.inr (.inr (.inr (.inr h))))
        · exact ⟨hkv.os, hkv.tape, hkv.output, hkv.size, hkv.block⟩
      clear hd2 hk2 HB2 HB HD HK hq3
      go_wp2_with fail
      go_still_tail 20, (by kernel_rfl)
      go_wp2_with fail
      refine HC.out.mono ?_
      rintro x w3 ⟨rfl, H3, HK3⟩
      obtain ⟨m3, hd3, hr3⟩ := H3.out
      have c1 := hd3.blk.cells.c1
      have f1' := hd3.blk.cells.fr 1
      have hs1 := hd3.set 1 (.bool true)
      have HF : Hid (DiskAt (w3.setCell ⟨p, 1, none⟩ (.bool true)) p m3 (failD ⟨f1, f2, f3, f4, f5⟩ d)) := ⟨hs1.1, hs1.2.to rfl rfl rfl rfl rfl rfl rfl⟩
      have HK4 : Hid (Kept (fun k => k = p ∨ k = m.sure) w (w3.setCell ⟨p, 1, none⟩ (.bool true))) := (HK2.out.trans (HK3.out.mono fun _ h => .inl h)).trans (Kept.setCell _ _ _ _ _ (.inl rfl))
      have HR : Hid (∀ k, m3.rest k → m.rest k ∨ w.heap.size ≤ k) := hr3
      clear hd3 hs1 hr3 H3 HK3 HC
      go_wp2
      go_end0
      exact ⟨rfl, ⟨m3, HF.out, HR.out⟩, HK4.out⟩

end

end Go.Proofs.YtgmfgkdecpldeaaGreat
