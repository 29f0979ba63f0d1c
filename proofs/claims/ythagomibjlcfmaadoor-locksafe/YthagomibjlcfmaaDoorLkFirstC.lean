/-
  The walk of firstNew.
-/
import Derived.Test.YthagomibjlcfmaaDoorLkBlkTC
namespace Go.Proofs.YthagomibjlcfmaaDoor
open Go.RowKit
set_option linter.unusedVariables false
set_option linter.unusedSimpArgs false

/-- A map of those to which one has been. -/
structure BeenAt (w : World) (bm sz : Nat) (D : DataW Value) (bn : Int → Bool) : Prop where
  map : MapV 3 w bm sz D
  has : ∀ t, i64R t → Maps.has D (tkey t) = bn t
  val : ∀ t, i64R t → getV D (tkey t) (.agg #[]) = .agg #[]

theorem zeroStruct (w : World) : (zeroValue 75).run Tryd.prog w = .ok (.agg #[]) w := by kernel_rfl

theorem BeenAt.same {w w' : World} {bm sz : Nat} {D : DataW Value} {bn : Int → Bool} (h : BeenAt w bm sz D bn) (e : w'.heap[bm]? = w.heap[bm]?) : BeenAt w' bm sz D bn := ⟨h.map.same e, h.has, h.val⟩

theorem BeenAt.look {w : World} {bm sz : Nat} {D : DataW Value} {bn : Int → Bool} (h : BeenAt w bm sz D bn) {t : Int} (ht : i64R t) :
    (Instr.lookup 72 (.map (some bm)) (.int .i64 t) true).run Tryd.prog w = .ok (.tuple #[.agg #[], .bool (bn t)]) w := by
  rw [h.map.lookOk txKeyed Tryd.underlying72 (zeroStruct w) (tkey_key ht.1 ht.2), h.has t ht, h.val t ht]

/-- The first to which one has not been. -/
def newF (bn : Int → Bool) : List Int → Int
  | [] => 0
  | z :: zs => if bn z then newF bn zs else z

theorem newF_drop (bn : Int → Bool) (zs : List Int) (k : Nat) (hk : k < zs.length) : newF bn (zs.drop k) = if bn zs[k] then newF bn (zs.drop (k + 1)) else zs[k] := by
  rw [List.drop_eq_getElem_cons hk]
  rfl

set_option maxHeartbeats 1600000 in
set_option maxRecDepth 20000 in
theorem first_any {w : World} {b bm sz : Nat} {tx : Int} {zs : List Int} {D : DataW Value} {bn : Int → Bool} (hb : BeenAt w bm sz D bn) (hz : ∀ z ∈ zs, i64R z) (hzl : zs.length ≤ 1000000)
    (hB : Calls Tryd.prog 13 #[.pointer (some ⟨b, 0, none⟩), .int .i64 tx] w fun e w' => ∃ v, e = .returned v ∧ IntsAt w.heap.size w' v zs ∧ Below w.heap.size w w') :
    Calls Tryd.prog 29 #[.pointer (some ⟨b, 0, none⟩), .int .i64 tx, .map (some bm)] w fun e w' => e = .returned (.int .i64 (newF bn zs)) ∧ Below w.heap.size w w' := by
  have HBE : Hid (∀ wx, Below w.heap.size w wx → BeenAt wx bm sz D bn) := fun wx k => hb.same (k.block bm hb.map.lt)
  have HZ : Hid (∀ z ∈ zs, i64R z) := hz
  clear hb hz
  go_enter Tryd.func29, Tryd.ntmps29
  go_wp2_with fail
  refine hB.mono ?_
  rintro e w1 ⟨v, rfl, hi, b1⟩
  obtain ⟨va, vc, rfl⟩ := hi.val
  have H0 : Hid (IntsAt w.heap.size w1 (.slice va zs.length vc) zs ∧ Below w.heap.size w w1 ∧ newF bn (zs.drop 0) = newF bn zs) := ⟨hi, b1, rfl⟩
  clear hB hi b1
  go_wp2_with fail
  go_loopw [15] (fun i wr => ∃ k : Nat, k ≤ zs.length ∧ i = .int .i64 (k : Int) ∧ Hid (IntsAt w.heap.size wr (.slice va zs.length vc) zs ∧ Below w.heap.size w wr ∧ newF bn (zs.drop k) = newF bn zs)) (fun i _ => zs.length - (intOf i).toNat)
  case atStart => exact ⟨0, by omega, rfl, H0⟩
  case round =>
    obtain ⟨k, hk, rfl, H1⟩ := hrel
    clear H0
    by_cases hlt : k < zs.length
    · obtain ⟨g, rfl⟩ : ∃ g, va = some ⟨g, 0, none⟩ := by
        rcases H1.out.1.2 with ⟨_, hn⟩ | ⟨g, cap, cur, e, _⟩
        · omega
        · exact ⟨g, (Value.slice.inj e).1⟩
      obtain ⟨z, Hzz⟩ : ∃ z, Hid (zs[k] = z) := ⟨zs[k], rfl⟩
      have hc : wr.cell? ⟨g, k, none⟩ = some (.int .i64 z) := by
        have := World.ownsRow.cells (g := g) H1.out.1 rfl k (.int .i64 z) (by rw [List.getElem?_map, List.getElem?_eq_getElem hlt, Hzz.out]; rfl)
        rw [Addr.add_lit, Nat.zero_add] at this
        exact this
      have hzr : i64R z := by rw [← Hzz.out]; exact HZ.out _ (List.getElem_mem hlt)
      have hlk := (HBE.out wr H1.out.2.1).look hzr
      have HD : Hid (newF bn (zs.drop k) = if bn z then newF bn (zs.drop (k + 1)) else z) := by rw [← Hzz.out]; exact newF_drop bn zs k hlt
      have i0 : (0 : Int) ≤ k := by omega
      have i1 : (k : Int) < zs.length := by omega
      have HAL : Hid (∀ o, Below wr.heap.size wr (wr.alloc o)) := fun o => (Below.refl _ _).alloc (Nat.le_refl _) _
      cases hbz : bn z with
      | true =>
        rw [hbz] at hlk
        have HN : Hid (newF bn (zs.drop (k + 1)) = newF bn zs) := by have := HD.out; rw [hbz, if_pos rfl] at this; exact this.symm.trans H1.out.2.2
        clear HD
        go_wp2
        go_roundw
        case rel => exact ⟨k + 1, by omega, by go_num, (HAL.out _ |> fun q => ⟨H1.out.1.below q, H1.out.2.1.trans (q.mono H1.out.2.1.size), HN.out⟩)⟩
        case measure => simp [intOf]; omega
      | false =>
        rw [hbz] at hlk
        have HN : Hid (z = newF bn zs) := by have := HD.out; rw [hbz, if_neg (by simp)] at this; exact this.symm.trans H1.out.2.2
        clear HD
        go_wp2
        go_ret
        exact ⟨by rw [← HN.out]; rfl, HAL.out _ |> fun q => H1.out.2.1.trans (q.mono H1.out.2.1.size)⟩
    · obtain rfl : k = zs.length := by omega
      have HN : Hid (newF bn zs = 0) := by have := H1.out.2.2; rw [List.drop_length] at this; exact this.symm
      have HB : Hid (Below w.heap.size w wr) := H1.out.2.1
      clear H1
      go_wp2
      go_ret
      exact ⟨by rw [HN.out]; rfl, HB.out⟩

end Go.Proofs.YthagomibjlcfmaaDoor
