/-
  The walks of key.lay with key.Row's two functions, and of key.Row.
-/
import Derived.Test.YtgammhmgdafpkaaDoorKeyMem
import Derived.Test.YtgammhmgdafpkaaDoorWriterSafe
namespace Go.Proofs.YtgammhmgdafpkaaDoor
open Go.RowKit Go.Sort
set_option linter.unusedVariables false
set_option linter.unusedSimpArgs false

theorem u64_wrap (n : Int) : IntKind.u64.wrap n = ((toU n : Nat) : Int) := by
  rw [IntKind.wrap_u64]; unfold toU; omega

/-- A writer in block b with the bytes l, and a variable in block B that points to it. -/
structure LayAt (w : World) (b B : Nat) (l : List UInt8) (a : Option Addr) (c : Nat) : Prop where
  wr : IsWriter w b l a c
  box : w.heap[B]? = some (.cells #[.pointer (some ⟨b, 0, none⟩)] 49 (0, 0))
  ne : B ≠ b

theorem LayAt.lt {w : World} {b B : Nat} {l : List UInt8} {a : Option Addr} {c : Nat} (h : LayAt w b B l a c) : B < w.heap.size := (Array.getElem?_eq_some_iff.1 h.box).1

theorem LayAt.cell {w : World} {b B : Nat} {l : List UInt8} {a : Option Addr} {c : Nat} (h : LayAt w b B l a c) : w.cell? ⟨B, 0, none⟩ = some (.pointer (some ⟨b, 0, none⟩)) := cell_of_one h.box

theorem LayAt.below {w w' : World} {b B : Nat} {l : List UInt8} {a : Option Addr} {c : Nat} (h : LayAt w b B l a c) (k : Below w.heap.size w w') : LayAt w' b B l a c :=
  ⟨h.wr.below k, (k.block B h.lt).trans h.box, h.ne⟩

theorem LayAt.safe {w w' : World} {b B : Nat} {l l' : List UInt8} {a a' : Option Addr} {c c' : Nat} (h : LayAt w b B l a c) (k : IsWriter w' b l' a' c') (s : WSafe b w w') : LayAt w' b B l' a' c' :=
  ⟨k, s B _ _ h.ne (by decide) h.box, h.ne⟩

set_option maxHeartbeats 400000 in
theorem rowNum_any {w : World} {b B : Nat} {l : List UInt8} {a : Option Addr} {c : Nat} (h : LayAt w b B l a c) (n : Int) (hl : l.length + 8 ≤ 140737488355328) :
    Calls Tryd.prog 47 #[.int .i64 n, .pointer (some ⟨B, 0, none⟩)] w fun y w' =>
      y = .returned (.tuple #[]) ∧ (∃ a' c', LayAt w' b B (l ++ putL (toU n) 8) a' c') ∧ Below b w w' := by
  have hc := h.cell
  have hu := u64_wrap n
  go_enter Tryd.func47, Tryd.ntmps47
  go_wp2_with fail
  refine (wnumber_s h.wr (toU n) 8 (u64_lt n) hl).mono ?_
  rintro y w2 ⟨rfl, ⟨a', c', h2⟩, b2, s2⟩
  go_wp2
  go_end0
  exact ⟨rfl, ⟨a', c', h.safe h2 s2⟩, b2⟩

set_option maxHeartbeats 400000 in
theorem rowText_any {w : World} {b B : Nat} {l : List UInt8} {a : Option Addr} {c : Nat} (h : LayAt w b B l a c) (s : ByteArray) (hs : s.size ≤ 20) (hl : l.length + 48 ≤ 140737488355328) :
    Calls Tryd.prog 48 #[.string s, .pointer (some ⟨B, 0, none⟩)] w fun y w' =>
      y = .returned (.tuple #[]) ∧ (∃ a' c', LayAt w' b B (l ++ (putL s.size 1 ++ s.data.toList)) a' c') ∧ Below b w w' := by
  have hc := h.cell
  have hu : IntKind.u64.wrap (s.size : Int) = (s.size : Int) := by rw [IntKind.wrap_u64]; omega
  go_enter Tryd.func48, Tryd.ntmps48
  go_wp2_with fail
  refine (wnumber_s h.wr s.size 1 (by omega) (by omega)).mono ?_
  rintro y w2 ⟨rfl, ⟨a', c', h2⟩, b2, s2⟩
  have h3 := h.safe h2 s2
  have hc3 := h3.cell
  have hlen : (l ++ putL s.size (longOf 1)).length = l.length + 1 := by rw [List.length_append, putL_length]; rfl
  go_wp2_with fail
  refine (wbytes_s h3.wr s (by rw [hlen]; omega)).mono ?_
  rintro y w4 ⟨rfl, ⟨a4, c4, h4⟩, b4, s4⟩
  go_wp2
  go_end0
  refine ⟨rfl, ⟨a4, c4, ?_⟩, b2.trans b4⟩
  have := h3.safe h4 s4
  rw [List.append_assoc] at this
  exact this

theorem rowL_none {v : ValV} (h : v.kind = 0) : v.rowL = putL 0 1 := by
  unfold ValV.rowL; rw [h, if_neg (by omega), if_neg (by omega), List.append_nil]; rfl
theorem rowL_num {v : ValV} (h : v.kind = 1) : v.rowL = putL 1 1 ++ putL (toU v.n) 8 := by
  unfold ValV.rowL; rw [h, if_pos rfl]; rfl
theorem rowL_text {v : ValV} (h : v.kind = 2) : v.rowL = putL 2 1 ++ (putL v.S.size 1 ++ v.S.data.toList) := by
  unfold ValV.rowL; rw [h, if_neg (by omega), if_pos rfl]; rfl

set_option maxHeartbeats 3200000 in
theorem layRow_any {w : World} {b B : Nat} {l : List UInt8} {a : Option Addr} {c : Nat} (h : LayAt w b B l a c) (a1 : Option Addr) (c1 : Nat) (L : List ValV) (hL : ∀ wr, Below b w wr → ValsAt wr a1 L)
    (hm : ∀ v ∈ L, v.may = true) (hlen : l.length + 64 * L.length + 64 ≤ 140737488355328) :
    Calls Tryd.prog 21 #[.pointer (some ⟨b, 0, none⟩), .slice a1 L.length c1, .func (.func 47) #[] #[.pointer (some ⟨B, 0, none⟩)], .func (.func 48) #[] #[.pointer (some ⟨B, 0, none⟩)]] w fun y w' =>
      y = .returned (.tuple #[]) ∧ (∃ a' c', LayAt w' b B (l ++ rowsL L) a' c') ∧ Below b w w' := by
  have hbw : b < w.heap.size := h.wr.lt
  go_enter Tryd.func21, Tryd.ntmps21
  go_wp2_with fail
  go_loopw [12] (fun i wr => ∃ (k : Nat) (a' : Option Addr) (c' : Nat), k ≤ L.length ∧ i = .int .i64 k ∧ Hid (LayAt wr b B (l ++ rowsL (L.take k)) a' c') ∧ Hid (Below b w wr) ∧ Hid ((rowsL (L.take k)).length ≤ 64 * k)) (fun i _ => L.length - (intOf i).toNat)
  case atStart => exact ⟨0, a, c, by omega, rfl, by show LayAt _ _ _ _ _ _; rw [List.take_zero, rowsL_nil, List.append_nil]; exact h, Below.refl _ _, by show _ ≤ _; rw [List.take_zero, rowsL_nil]; simp⟩
  case round =>
    obtain ⟨k, a', c', hk, rfl, HA, HB, HZ⟩ := hrel
    by_cases hlt : k < L.length
    · have hL' := hL _ HB.out
      rcases hL' with hL' | ⟨q, o, rfl, hq, g⟩
      · rw [hL'] at hlt; simp at hlt
      have g := g k hlt
      have hmk := hm L[k] (List.getElem_mem hlt)
      have HT1 : Hid (rowsL (L.take (k + 1)) = rowsL (L.take k) ++ L[k].rowL) := by show _ = _; rw [List.take_succ_eq_append_getElem hlt, rowsL_snoc]
      have hi0 : (0 : Int) ≤ (k : Int) := by omega
      have hi1 : (k : Int) < (L.length : Int) := by omega
      obtain ⟨v, Hv⟩ : ∃ v, Hid (L[k] = v) := ⟨L[k], rfl⟩
      rw [Hv.out] at g hmk HT1
      have hsz := may_size hmk
      have hrl := may_rowL_length hmk
      have HZ1 : Hid ((rowsL (L.take k) ++ v.rowL).length ≤ 64 * (k + 1)) := by show _ ≤ _; rw [List.length_append]; have := HZ.out; omega
      have hlen1 : (l ++ rowsL (L.take k)).length + 64 ≤ 140737488355328 := by rw [List.length_append]; have := HZ.out; omega
      obtain ⟨c0, c1', c2⟩ := g
      have hz : b ≤ wr.heap.size := by have := HB.out.size; omega
      have HA1 := hidk (HA.out.below ((Below.refl wr.heap.size wr).alloc (Nat.le_refl _) (.cells #[.int .i64 v.kind, .int .i64 v.n, .string v.S] 35)))
      have HB1 : Hid (Below b w (wr.alloc (.cells #[.int .i64 v.kind, .int .i64 v.n, .string v.S] 35))) := HB.out.alloc hz _
      have hlw : b < wr.heap.size := HA.out.wr.lt
      obtain ⟨X, HX⟩ : ∃ X, Hid (rowsL (L.take k) = X) := ⟨_, rfl⟩
      rw [HX.out] at HA1 HT1 HZ1 hlen1
      obtain ⟨W1, HW1⟩ : ∃ W1, Hid (W1 = wr.alloc (.cells #[.int .i64 v.kind, .int .i64 v.n, .string v.S] 35)) := ⟨_, rfl⟩
      have hd0 : W1.heap[wr.heap.size]? = some (.cells #[.int .i64 v.kind, .int .i64 v.n, .string v.S] 35 (0, 0)) := by rw [HW1.out]; exact heap_alloc_new _ _
      have hW : wr.heap.size ≠ b := by omega
      rw [← HW1.out] at HA1 HB1
      have HN : Hid (∀ kk : Nat, kk ≤ 2 → Calls Tryd.prog 23 #[.pointer (some ⟨b, 0, none⟩), .int .u64 kk, .int .i64 1] W1 fun y w' => y = .returned (.tuple #[]) ∧ (∃ a' c', LayAt w' b B (l ++ X ++ putL kk 1) a' c') ∧ Below b w w' ∧ w'.heap[wr.heap.size]? = some (.cells #[.int .i64 v.kind, .int .i64 v.n, .string v.S] 35 (0, 0))) := fun kk hkk => by
        refine (wnumber_s HA1.out.wr kk 1 (by omega) (by omega)).mono ?_
        rintro y w2 ⟨rfl, ⟨a2, c2, h2⟩, b2, s2⟩
        exact ⟨rfl, ⟨a2, c2, HA1.out.safe h2 s2⟩, HB1.out.trans b2, s2 _ _ _ hW (by decide) hd0⟩
      have hl2 : ∀ kk : Nat, (l ++ X ++ putL kk 1).length + 48 ≤ 140737488355328 := fun kk => by rw [List.length_append, putL_length]; omega
      clear HA HB HZ hd0 HX h hL hm
      rcases v.may_kind hmk with e | e | e
      · have hr := hidk (rowL_none e)
        obtain ⟨vk, vn, vS⟩ := v
        simp only at e c0 c1' c2 hr HN HW1
        subst e
        go_wp2_with fail
        rw [← HW1.out]
        refine (HN.out 0 (by omega)).mono ?_
        rintro y w2 ⟨rfl, ⟨a2, c2, h2⟩, b2, d2⟩
        have y0 : w2.cell? ⟨wr.heap.size, 0, none⟩ = some (.int .i64 0) := by unfold World.cell?; simp [d2]
        go_wp2
        go_roundw
        case rel =>
          refine ⟨k + 1, a2, c2, by omega, by go_num, ?_, b2, ?_⟩
          · show LayAt _ _ _ _ _ _
            rw [HT1.out, hr.out, ← List.append_assoc]
            exact h2
          · show _ ≤ _
            rw [HT1.out]; exact HZ1.out
        case measure => simp [intOf]; omega
      · have hr := hidk (rowL_num e)
        obtain ⟨vk, vn, vS⟩ := v
        simp only at e c0 c1' c2 hr HN HW1
        subst e
        go_wp2_with fail
        rw [← HW1.out]
        refine (HN.out 1 (by omega)).mono ?_
        rintro y w2 ⟨rfl, ⟨a2, c2, h2⟩, b2, d2⟩
        have y0 : w2.cell? ⟨wr.heap.size, 0, none⟩ = some (.int .i64 1) := by unfold World.cell?; simp [d2]
        have y1 : w2.cell? ⟨wr.heap.size, 1, none⟩ = some (.int .i64 vn) := by unfold World.cell?; simp [d2]
        go_wp2_with fail
        refine (rowNum_any h2 vn (by have := hl2 1; omega)).mono ?_
        rintro y w3 ⟨rfl, ⟨a3, c3, h3⟩, b3⟩
        go_wp2
        go_roundw
        case rel =>
          refine ⟨k + 1, a3, c3, by omega, by go_num, ?_, b2.trans b3, ?_⟩
          · show LayAt _ _ _ _ _ _
            rw [HT1.out, hr.out, ← List.append_assoc, ← List.append_assoc]
            exact h3
          · show _ ≤ _
            rw [HT1.out]; exact HZ1.out
        case measure => simp [intOf]; omega
      · have hr := hidk (rowL_text e)
        obtain ⟨vk, vn, vS⟩ := v
        simp only at e c0 c1' c2 hr HN HW1 hsz
        subst e
        go_wp2_with fail
        rw [← HW1.out]
        refine (HN.out 2 (by omega)).mono ?_
        rintro y w2 ⟨rfl, ⟨a2, c2, h2⟩, b2, d2⟩
        have y0 : w2.cell? ⟨wr.heap.size, 0, none⟩ = some (.int .i64 2) := by unfold World.cell?; simp [d2]
        have y2 : w2.cell? ⟨wr.heap.size, 2, none⟩ = some (.string vS) := by unfold World.cell?; simp [d2]
        go_wp2_with fail
        refine (rowText_any h2 vS hsz (hl2 2)).mono ?_
        rintro y w3 ⟨rfl, ⟨a3, c3, h3⟩, b3⟩
        go_wp2
        go_roundw
        case rel =>
          refine ⟨k + 1, a3, c3, by omega, by go_num, ?_, b2.trans b3, ?_⟩
          · show LayAt _ _ _ _ _ _
            rw [HT1.out, hr.out, ← List.append_assoc, ← List.append_assoc]
            exact h3
          · show _ ≤ _
            rw [HT1.out]; exact HZ1.out
        case measure => simp [intOf]; omega
    · have hkl : L.take k = L := List.take_of_length_le (by omega)
      rw [hkl] at HA
      clear hkl
      go_wp2
      go_end0
      exact ⟨rfl, ⟨a', c', HA.out⟩, HB.out⟩

end Go.Proofs.YtgammhmgdafpkaaDoor
