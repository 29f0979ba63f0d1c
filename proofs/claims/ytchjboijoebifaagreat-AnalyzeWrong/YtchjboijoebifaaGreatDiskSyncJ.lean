/-
  The walk of Sync, as long as there is no plan.
-/
import Derived.Test.YtchjboijoebifaaGreatDiskLogC
import Derived.Test.YtchjboijoebifaaGreatWalRecsJ
set_option linter.unusedVariables false
set_option linter.unusedSimpArgs false
namespace Go.Proofs.YtchjboijoebifaaGreat
open Go.RowKit

def keepTo (l : List LW) (u : (Nat → ByteArray) × Nat) : Nat → (Nat → ByteArray) × Nat
  | 0 => u
  | n + 1 => match l[n]? with
    | some x => (keepF x (keepTo l u n).1, keepM x (keepTo l u n).2)
    | none => keepTo l u n

theorem keepTo_succ {l : List LW} {u : (Nat → ByteArray) × Nat} {n : Nat} {x : LW} (h : l[n]? = some x) : keepTo l u (n + 1) = (keepF x (keepTo l u n).1, keepM x (keepTo l u n).2) := by
  simp only [keepTo, h]

def syncD (d : DG) : DG :=
  { d with calls := d.calls + 1, sure := (keepTo d.loose (d.sure, d.sm) d.loose.length).1, sm := (keepTo d.loose (d.sure, d.sm) d.loose.length).2, mark := (keepTo d.loose (d.sure, d.sm) d.loose.length).2,
           loose := [], fresh := fun _ => none, nS := d.nS + d.loose.length, nF := 0 }

section
variable {w : World} {p : Nat} {S : Nat → Prop} {d : DG}

set_option maxHeartbeats 1600000 in
set_option maxRecDepth 8000 in
theorem sync_out (h : IsDisk w p S d) (hd : d.dead = false) (hl : d.plan = []) (hn : d.calls ≤ 1000000) (hok : d.ok) :
    Calls Tryz.prog 55 #[.pointer (some ⟨p, 0, none⟩)] w fun x w' => x = .returned (.int .i64 0) ∧ ∃ S', IsDisk w' p S' (syncD d) ∧ Moves S S' w w' := by
  obtain ⟨m, hD, hS, _⟩ := h
  have HD : Hid (DiskAt w p m d) := hD
  have HS : Hid (∀ k, m.has p k → S k) := hS
  clear hD hS
  obtain ⟨a, cap, e, hA⟩ : ∃ a cap, m.looseV = .slice a d.loose.length cap ∧ (a = none ∧ d.loose.length = 0 ∨ ∃ g, a = some ⟨g, 0, none⟩ ∧ d.loose.length ≤ cap ∧ cap ≤ 9223372036854775807) := by
    rcases HD.out.parts.loose.2 with ⟨e1, e2⟩ | ⟨g', cap', cur', e1, h0, hb, h1, h2, h3, h4⟩
    · exact ⟨none, 0, by rw [e1, e2], .inl ⟨rfl, e2⟩⟩
    · exact ⟨_, _, e1, .inr ⟨g', rfl, h1, by unfold maxLen at h2; omega⟩⟩
  have HA : Hid (a = none ∧ d.loose.length = 0 ∨ ∃ g, a = some ⟨g, 0, none⟩ ∧ d.loose.length ≤ cap ∧ cap ≤ 9223372036854775807) := hA
  clear hA
  go_enter Tryz.func55, Tryz.ntmps55
  go_wp2_with fail
  refine (dead_any HD.out.blk.cells).mono ?_
  rintro x w1 ⟨rfl, rfl⟩
  rw [hd]
  go_wp2_with fail
  refine (powered_none HD.out hl hn).mono ?_
  rintro x w2 ⟨rfl, hD1, hK1⟩
  have HD1 : Hid (DiskAt w2 p m { d with calls := d.calls + 1 }) := hD1
  have HK1 : Hid (Kept (fun k => k = p) w1 w2) := hK1
  clear hD1 hK1
  have c6 := HD1.out.blk.cells.c6
  rw [e] at c6
  go_wp2
  go_loopw [17] (fun i wr => ∃ k : Nat, k ≤ d.loose.length ∧ i = .int .i64 k ∧
      Hid (DiskAt wr p m { d with calls := d.calls + 1, sure := (keepTo d.loose (d.sure, d.sm) k).1, sm := (keepTo d.loose (d.sure, d.sm) k).2, nS := d.nS + k }) ∧
      Hid (Kept (fun k => k = p ∨ k = m.sure) w1 wr)) (fun i _ => d.loose.length - (intOf i).toNat)
  case atStart => exact ⟨0, Nat.zero_le _, rfl, HD1.out, HK1.out.mono fun _ x => .inl x⟩
  case round =>
    obtain ⟨k, hk, rfl, HDr, HKr⟩ := hrel
    by_cases hlt : k < d.loose.length
    · obtain ⟨g, hg, h1, h2⟩ : ∃ g, a = some ⟨g, 0, none⟩ ∧ d.loose.length ≤ cap ∧ cap ≤ 9223372036854775807 := by
        rcases HA.out with ⟨_, h⟩ | h
        · omega
        · exact h
      subst hg
      obtain ⟨x, hx⟩ : ∃ x, d.loose[k]? = some x := ⟨_, List.getElem?_eq_getElem hlt⟩
      have hown' := HDr.out.parts.loose
      rw [e] at hown'
      have q0 := owns_cells hown' (k * 3 + 0) _ (wcells_get _ k x hx 0 (by omega))
      have q1 := owns_cells hown' (k * 3 + 1) _ (wcells_get _ k x hx 1 (by omega))
      have q2 := owns_cells hown' (k * 3 + 2) _ (wcells_get _ k x hx 2 (by omega))
      rw [Nat.add_zero] at q0
      have hlw : p < wr.heap.size := HDr.out.lt
      have hlg : g < wr.heap.size := by obtain ⟨cur', hb'⟩ := owns_block hown' rfl; exact hb'.lt
      have hxo := hok.loose x (List.mem_of_getElem? hx)
      obtain ⟨pg, s, mk⟩ := x
      have HX : Hid (d.loose[k]? = some ⟨pg, s, mk⟩) := hx
      clear hx hown'
      have hki : (k : Int) < d.loose.length := by omega
      have hB : Hid (Below wr.heap.size wr (wr.alloc (.cells #[.int .u32 pg, .string s, .int .u64 mk] 160))) := (Below.refl _ _).alloc (Nat.le_refl _) _
      go_wp2_with fail
      refine (keep_any (HDr.out.below hB.out) ⟨pg, s, mk⟩ hxo.1 hxo.2.1 (by have := hok.n; show d.nS + k ≤ _; omega)).mono ?_
      rintro z w3 ⟨rfl, hd2, hk2⟩
      have HD2 : Hid (DiskAt w3 p m { d with calls := d.calls + 1, sure := (keepTo d.loose (d.sure, d.sm) (k + 1)).1, sm := (keepTo d.loose (d.sure, d.sm) (k + 1)).2, nS := d.nS + (k + 1) }) := by
        rw [keepTo_succ HX.out]; exact hd2
      have HK2 : Hid (Kept (fun k => k = p ∨ k = m.sure) w1 w3) := HKr.out.trans ((Kept.of_below hB.out).trans hk2)
      clear hd2 hk2 hB
      go_wp2
      go_roundw
      case rel => exact ⟨k + 1, by omega, by go_num, HD2, HK2⟩
      case measure => simp [intOf]; omega
    · have hkn : k = d.loose.length := by omega
      subst hkn
      go_wp2_with fail
      refine (settle_any HDr.out).mono ?_
      rintro z w3 ⟨rfl, ⟨b2, hd2, hb2⟩, hk2⟩
      have hsz := HKr.out.size
      have HF : Hid (∃ S', IsDisk w3 p S' (syncD d) ∧ Moves S S' w1 w3) := by
        refine moved HD.out HS.out hd2 ?_ (HKr.out.trans (hk2.mono fun _ x => .inl x)) fun k x => by
          rcases x with x | x
          · exact .inl x
          · exact .inr (.inl x)
        rintro k (x | x | x | x | x)
        · exact .inl (.inl x)
        · right; simp only at x; omega
        · cases x
        · exact .inl (.inr (.inr (.inr (.inl x))))
        · exact .inl (.inr (.inr (.inr (.inr x))))
      clear hd2 hk2
      go_wp2
      go_ret
      exact ⟨rfl, HF.out⟩

end

end Go.Proofs.YtchjboijoebifaaGreat

namespace Go.Proofs.YtchjboijoebifaaGreat
open Go.RowKit

section
variable {w : World} {p : Nat} {S : Nat → Prop} {d : DG}

theorem mark_out (h : IsDisk w p S d) (hd : d.dead = false) :
    Calls Tryz.prog 101 #[.pointer (some ⟨p, 0, none⟩)] w fun x w' => x = .returned (.tuple #[.int .u64 d.mark, .int .i64 0]) ∧ w' = w := by
  obtain ⟨m, hD, _⟩ := h
  have c8 := hD.blk.cells.c8
  have HD := hid hD
  clear hD
  go_enter Tryz.func101, Tryz.ntmps101
  go_wp2_with fail
  refine (dead_any HD.out.blk.cells).mono ?_
  rintro x w1 ⟨rfl, rfl⟩
  rw [hd]
  go_wp2
  go_ret2
  exact ⟨rfl, rfl⟩

end

section
variable {w : World} {p : Nat} {S : Nat → Prop} {l : LG} {rs : List ByteArray}

set_option maxHeartbeats 400000 in
set_option maxRecDepth 8000 in
theorem master_out {D : Nat → Prop} {d : DG} (h : IsLog w p S l) (hd : IsDisk w l.dp D d) (h1 : d.dead = false) (hr : Rising l.starts) (hn : l.starts.length ≤ 10000000) (v : Nat) (hv : (v = d.mark ∧ ∃ j, j < l.starts.length ∧ l.starts.getD j 0 = d.mark) ∨ (v = 0 ∧ ∀ j, j < l.starts.length → l.starts.getD j 0 ≠ d.mark)) :
    Calls Tryz.prog 59 #[.pointer (some ⟨p, 0, none⟩)] w fun e w' => e = .returned (.int .u64 (v : Nat)) ∧ ∃ q, w' = w.drewN q := by
  have c0 := h.c0
  have HM := hid (mark_out hd h1)
  have HF := hid (find_out h hr hn d.mark)
  rcases hv with ⟨rfl, j, hj, hx⟩ | ⟨rfl, hx⟩
  · have HH : Hid (∀ i b, Found l.starts d.mark i b → b = true) := fun i b hf => (hf.here hr hj hx).2
    go_enter Tryz.func59, Tryz.ntmps59
    go_wp2_with fail
    refine HM.out.mono ?_
    rintro e w1 ⟨rfl, rfl⟩
    go_wp2_with fail
    refine HF.out.mono ?_
    rintro e w2 ⟨⟨i, b, rfl, hf⟩, q, rfl⟩
    obtain rfl := HH.out i b hf
    clear hf
    go_wp2
    go_ret
    exact ⟨rfl, q, rfl⟩
  · have HH : Hid (∀ i b, Found l.starts d.mark i b → b = false) := fun i b hf => by
      rw [hf.2.2.2]
      exact decide_eq_false fun k => hx i k.1 k.2
    go_enter Tryz.func59, Tryz.ntmps59
    go_wp2_with fail
    refine HM.out.mono ?_
    rintro e w1 ⟨rfl, rfl⟩
    go_wp2_with fail
    refine HF.out.mono ?_
    rintro e w2 ⟨⟨i, b, rfl, hf⟩, q, rfl⟩
    obtain rfl := HH.out i b hf
    clear hf
    go_wp2
    go_ret
    exact ⟨rfl, q, rfl⟩

end

end Go.Proofs.YtchjboijoebifaaGreat
