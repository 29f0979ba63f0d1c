/-
  The walk of node.takeAll at items and at children.
-/
import Derived.Test.YtpllidadpcahbaaGreatBase3C
namespace Go.Proofs.YtpllidadpcahbaaGreat
open Go.RowKit
set_option linter.unusedVariables false
set_option linter.unusedSimpArgs false

theorem all_take_succ {α : Type} (f : α → Bool) (L : List α) (k : Nat) (hk : k < L.length) : (L.take (k + 1)).all f = ((L.take k).all f && f L[k]) := by
  rw [← List.take_append_getElem hk, List.all_append]; simp

theorem map_take_succ {α β : Type} (f : α → β) (L : List α) (k : Nat) (hk : k < L.length) : (L.take (k + 1)).map f = (L.take k).map f ++ [f L[k]] := by
  rw [← List.take_append_getElem hk, List.map_append]; rfl

theorem all_false_of {α : Type} (f : α → Bool) (L : List α) (k : Nat) (hk : k < L.length) (h : f L[k] = false) : L.all f = false := by
  rw [List.all_eq_false]
  exact ⟨L[k], List.getElem_mem hk, by simp [h]⟩

theorem RowV.store4 {w : World} {b N : Nat} {f : Nat → Value} (h : RowV w b N f) {k : Nat} (hk : k + 3 < N) (v0 v1 v2 v3 : Value) :
    RowV ((((w.setCell ⟨b, k, none⟩ v0).setCell ⟨b, k + 1, none⟩ v1).setCell ⟨b, k + 2, none⟩ v2).setCell ⟨b, k + 3, none⟩ v3) b N (fun j => if j = k + 3 then v3 else if j = k + 2 then v2 else if j = k + 1 then v1 else if j = k then v0 else f j) :=
  (((h.set (by omega) v0).set (by omega) v1).set (by omega) v2).set (by omega) v3


set_option maxHeartbeats 3200000 in
set_option maxRecDepth 60000 in
theorem takeAllI_any (a : Option Addr) (c : Nat) (L : List ByteArray) (w : World) (hm : StrsAt w a L) (hl : L.length ≤ 7036874417766) (hs : ∀ s ∈ L, s.size ≤ 281474976710656) :
    Calls Tryz.prog 114 #[.slice a L.length c, .func (.func 115) #[] #[]] w fun x w' => Below w.heap.size w w' ∧
      (L.all itemB = true → ∃ a' c', x = .returned (.tuple #[.slice a' L.length c', .int .i64 0]) ∧ RowsFrom w.heap.size 4 ItemV.enc w' a' (L.map itemOf)) ∧
      (L.all itemB = false → x = .returned (.tuple #[.slice none 0 0, .int .i64 120])) := by
  have hmk := nmake_rows (P := Tryz.prog) 34 42 #[.string ⟨#[]⟩, .int .u32 0, .int .i64 0, .bool false] 4 40 Tryz.underlying34 infoItem .i64 .i64 L.length (by omega) (by omega)
  obtain ⟨W, HW⟩ : ∃ W, Hid (W = w.alloc (.cells (madeCells #[.string ⟨#[]⟩, .int .u32 0, .int .i64 0, .bool false] (L.length * 4)) 42)) := ⟨_, rfl⟩
  have hW : RowV W w.heap.size (L.length * 4) (cell4 ItemV.enc [.string ⟨#[]⟩, .int .u32 0, .int .i64 0, .bool false] []) := by rw [HW.out]; exact RowV.made4 _ _ _ _ _ _ _ _
  have bW : Below w.heap.size w W := by rw [HW.out]; exact (Below.refl _ _).alloc (Nat.le_refl _) _
  have zW : w.heap.size < W.heap.size := by rw [HW.out]; simp
  go_enter Tryz.func114, Tryz.ntmps114
  go_wp2_with fail
  rw [← HW.out]
  clear HW
  go_loopw [15] (fun i wr => ∃ k : Nat, k ≤ L.length ∧ i = .int .i64 k ∧ Hid (RowV wr w.heap.size (L.length * 4) (cell4 ItemV.enc [.string ⟨#[]⟩, .int .u32 0, .int .i64 0, .bool false] ((L.take k).map itemOf))) ∧ Hid (Below w.heap.size w wr) ∧ w.heap.size < wr.heap.size ∧ Hid ((L.take k).all itemB = true)) (fun i _ => L.length - (intOf i).toNat)
  case atStart => exact ⟨0, by omega, rfl, hW, bW, zW, by show _ = _; simp⟩
  case round =>
    obtain ⟨k, hk, rfl, HR, HB, hz, HA⟩ := hrel
    by_cases hlt : k < L.length
    · obtain ⟨b, o, rfl, hb, hck⟩ : ∃ b o, a = some ⟨b, o, none⟩ ∧ b < w.heap.size ∧ wr.cell? ⟨b, o + k, none⟩ = some (.string L[k]) := by
        rcases hm with hm | ⟨b, o, e, hb, hc⟩
        · rw [hm] at hlt; simp at hlt
        · exact ⟨b, o, e, hb, (HB.out.cell (p := ⟨b, o + k, none⟩) hb).trans (hc k hlt)⟩
      have hsk := hs L[k] (List.getElem_mem hlt)
      have HA1 := hidn (all_take_succ itemB L k hlt)
      have HM1 := hidn (map_take_succ itemOf L k hlt)
      have HF := hidn (all_false_of itemB L k hlt)
      have HSP := hidn (itemF_spec L[k])
      generalize L[k] = s at *
      have hi0 : (0 : Int) ≤ (k : Int) := by omega
      have hi1 : (k : Int) < (L.length : Int) := by omega
      obtain ⟨⟨p1, e1, v⟩, HX⟩ : ∃ X, Hid (itemF s 0 0 = X) := ⟨_, rfl⟩
      rw [HX.out] at HSP
      simp only at HSP
      go_wp2_with fail
      refine (new_reader s wr).mono ?_
      rintro x w1 ⟨rfl, rfl⟩
      have h1 := reader_new hsk (Below.refl (wr.alloc (.cells #[.string s, .int .i64 0, .int .i64 0] 231)).heap.size (wr.alloc (.cells #[.string s, .int .i64 0, .int .i64 0] 231)))
      obtain ⟨V, HV⟩ : ∃ V, Hid (V = wr.alloc (.cells #[.string s, .int .i64 0, .int .i64 0] 231)) := ⟨_, rfl⟩
      have bV := hidn ((HB.out).alloc (Nat.le_of_lt hz) (.cells #[.string s, .int .i64 0, .int .i64 0] 231))
      have rV := HR.out.below ((Below.refl _ _).alloc (Nat.le_refl _) (.cells #[.string s, .int .i64 0, .int .i64 0] 231)) hz
      have hzV : V.heap.size = wr.heap.size + 1 := by rw [HV.out]; simp
      rw [← HV.out] at h1 bV rV ⊢
      clear HV
      have HT : Hid (Calls Tryz.prog 115 #[.pointer (some ⟨wr.heap.size, 0, none⟩)] V fun x w' => x = .returned v.val ∧ IsReader w' wr.heap.size s p1 e1 ∧ Only wr.heap.size V w') := by
        have := takeItem_any h1
        rw [HX.out] at this
        exact this
      simp only [ItemV.val] at HT
      go_wp2_with fail
      refine HT.out.mono ?_
      rintro x w2 ⟨rfl, h2, o2⟩
      have r2 := rV.only o2 (by omega) (by omega)
      have b2 := hidn (o2.below bV.out (by omega) (Nat.le_refl _))
      have hz2 := o2.size
      have c0 := (r2 (k * 4) (by omega)).1
      have c1 := (r2 (k * 4 + 1) (by omega)).1
      have c2 := (r2 (k * 4 + 2) (by omega)).1
      have c3 := (r2 (k * 4 + 3) (by omega)).1
      have f0 := (r2 (k * 4) (by omega)).2
      have f1 := (r2 (k * 4 + 1) (by omega)).2
      have f2 := (r2 (k * 4 + 2) (by omega)).2
      have f3 := (r2 (k * 4 + 3) (by omega)).2
      generalize cell4 ItemV.enc [.string ⟨#[]⟩, .int .u32 0, .int .i64 0, .bool false] ((L.take k).map itemOf) (k * 4) = u0 at c0
      generalize cell4 ItemV.enc [.string ⟨#[]⟩, .int .u32 0, .int .i64 0, .bool false] ((L.take k).map itemOf) (k * 4 + 1) = u1 at c1
      generalize cell4 ItemV.enc [.string ⟨#[]⟩, .int .u32 0, .int .i64 0, .bool false] ((L.take k).map itemOf) (k * 4 + 2) = u2 at c2
      generalize cell4 ItemV.enc [.string ⟨#[]⟩, .int .u32 0, .int .i64 0, .bool false] ((L.take k).map itemOf) (k * 4 + 3) = u3 at c3
      have R3 := hidn (r2.store4 (k := k * 4) (by omega) (.string v.e.key) (.int .u32 v.e.page) (.int .i64 v.e.slot) (.bool v.live))
      have h3 := nReader_setOther (nReader_setOther (nReader_setOther (nReader_setOther h2 (k := w.heap.size) (i := k * 4) (by omega) (.string v.e.key)) (k := w.heap.size) (i := k * 4 + 1) (by omega) (.int .u32 v.e.page)) (k := w.heap.size) (i := k * 4 + 2) (by omega) (.int .i64 v.e.slot)) (k := w.heap.size) (i := k * 4 + 3) (by omega) (.bool v.live)
      have b3 := hidn ((((b2.out.setCell (p := ⟨w.heap.size, k * 4, none⟩) (Nat.le_refl _) (.string v.e.key)).setCell (p := ⟨w.heap.size, k * 4 + 1, none⟩) (Nat.le_refl _) (.int .u32 v.e.page)).setCell (p := ⟨w.heap.size, k * 4 + 2, none⟩) (Nat.le_refl _) (.int .i64 v.e.slot)).setCell (p := ⟨w.heap.size, k * 4 + 3, none⟩) (Nat.le_refl _) (.bool v.live))
      clear HT HR r2 rV bV b2 h1
      go_wp2_with fail
      obtain ⟨w3, HW3⟩ : ∃ w3, Hid (w3 = (((w2.setCell ⟨w.heap.size, k * 4, none⟩ (.string v.e.key)).setCell ⟨w.heap.size, k * 4 + 1, none⟩ (.int .u32 v.e.page)).setCell ⟨w.heap.size, k * 4 + 2, none⟩ (.int .i64 v.e.slot)).setCell ⟨w.heap.size, k * 4 + 3, none⟩ (.bool v.live)) := ⟨_, rfl⟩
      have hz3 : w3.heap.size = w2.heap.size := by rw [HW3.out]; simp
      rw [← HW3.out] at R3 h3 b3 ⊢
      clear HW3 c0 c1 c2 c3 f0 f1 f2 f3 h2 o2
      refine (end_any h3).mono ?_
      rintro x w4 ⟨rfl, h4, o4⟩
      have R4 := hidn (R3.out.only o4 (by omega) (by omega))
      have b4 := hidn (o4.below b3.out (by omega) (Nat.le_refl _))
      have hz4 := o4.size
      clear R3 b3 h3 h4 o4
      obtain ⟨E, HE⟩ : ∃ E, Hid (endE s p1 e1 = E) := ⟨_, rfl⟩
      rw [HE.out] at HSP ⊢
      cases hbs : itemB s with
      | true =>
        obtain ⟨hE, hv⟩ := HSP.out.1 hbs
        subst hE
        go_wp2
        go_roundw
        case rel =>
          refine ⟨k + 1, by omega, by go_num, ?_, b4, by omega, ?_⟩
          · show RowV _ _ _ _
            rw [HM1.out, ← hv]
            refine R4.out.congr fun j hj => ?_
            rw [cell4_snoc (enc := ItemV.enc) (x := v) rfl, List.length_map, List.length_take, Nat.min_eq_left (by omega)]
          · show _ = _
            rw [HA1.out, HA.out, hbs]; rfl
        case measure => simp [intOf]; omega
      | false =>
        have hE := HSP.out.2 hbs
        have hE' : (E != 0) = true := by rw [bne_iff_ne]; exact hE
        have hF := HF.out hbs
        go_wp2
        go_ret2
        refine ⟨b4.out, fun h => ?_, fun _ => rfl⟩
        rw [hF] at h; exact absurd h (by simp)
    · obtain rfl : k = L.length := by omega
      have HA2 := HA.out
      have HR2 := HR.out
      rw [List.take_length] at HA2 HR2
      go_wp2
      go_ret2
      refine ⟨HB.out, fun _ => ⟨_, _, rfl, ?_⟩, fun h => ?_⟩
      · refine RowV.rows4 (z := [.string ⟨#[]⟩, .int .u32 0, .int .i64 0, .bool false]) (fun _ => rfl) (Nat.le_refl _) hz ?_
        rw [List.length_map]; exact HR2
      · rw [HA2] at h; exact absurd h (by simp)

set_option maxHeartbeats 3200000 in
set_option maxRecDepth 60000 in
theorem takeAllC_any (a : Option Addr) (c : Nat) (L : List ByteArray) (w : World) (hm : StrsAt w a L) (hl : L.length ≤ 7036874417766) (hs : ∀ s ∈ L, s.size ≤ 281474976710656) :
    Calls Tryz.prog 131 #[.slice a L.length c, .func (.func 132) #[] #[]] w fun x w' => Below w.heap.size w w' ∧
      (L.all childB = true → ∃ a' c', x = .returned (.tuple #[.slice a' L.length c', .int .i64 0]) ∧ RowsFrom w.heap.size 4 ChildV.enc w' a' (L.map childOf)) ∧
      (L.all childB = false → x = .returned (.tuple #[.slice none 0 0, .int .i64 120])) := by
  have hmk := nmake_rows (P := Tryz.prog) 80 74 #[.int .u32 0, .string ⟨#[]⟩, .int .u32 0, .int .i64 0] 4 40 Tryz.underlying80 infoChild .i64 .i64 L.length (by omega) (by omega)
  obtain ⟨W, HW⟩ : ∃ W, Hid (W = w.alloc (.cells (madeCells #[.int .u32 0, .string ⟨#[]⟩, .int .u32 0, .int .i64 0] (L.length * 4)) 74)) := ⟨_, rfl⟩
  have hW : RowV W w.heap.size (L.length * 4) (cell4 ChildV.enc [.int .u32 0, .string ⟨#[]⟩, .int .u32 0, .int .i64 0] []) := by rw [HW.out]; exact RowV.made4 _ _ _ _ _ _ _ _
  have bW : Below w.heap.size w W := by rw [HW.out]; exact (Below.refl _ _).alloc (Nat.le_refl _) _
  have zW : w.heap.size < W.heap.size := by rw [HW.out]; simp
  go_enter Tryz.func131, Tryz.ntmps131
  go_wp2_with fail
  rw [← HW.out]
  clear HW
  go_loopw [15] (fun i wr => ∃ k : Nat, k ≤ L.length ∧ i = .int .i64 k ∧ Hid (RowV wr w.heap.size (L.length * 4) (cell4 ChildV.enc [.int .u32 0, .string ⟨#[]⟩, .int .u32 0, .int .i64 0] ((L.take k).map childOf))) ∧ Hid (Below w.heap.size w wr) ∧ w.heap.size < wr.heap.size ∧ Hid ((L.take k).all childB = true)) (fun i _ => L.length - (intOf i).toNat)
  case atStart => exact ⟨0, by omega, rfl, hW, bW, zW, by show _ = _; simp⟩
  case round =>
    obtain ⟨k, hk, rfl, HR, HB, hz, HA⟩ := hrel
    by_cases hlt : k < L.length
    · obtain ⟨b, o, rfl, hb, hck⟩ : ∃ b o, a = some ⟨b, o, none⟩ ∧ b < w.heap.size ∧ wr.cell? ⟨b, o + k, none⟩ = some (.string L[k]) := by
        rcases hm with hm | ⟨b, o, e, hb, hc⟩
        · rw [hm] at hlt; simp at hlt
        · exact ⟨b, o, e, hb, (HB.out.cell (p := ⟨b, o + k, none⟩) hb).trans (hc k hlt)⟩
      have hsk := hs L[k] (List.getElem_mem hlt)
      have HA1 := hidn (all_take_succ childB L k hlt)
      have HM1 := hidn (map_take_succ childOf L k hlt)
      have HF := hidn (all_false_of childB L k hlt)
      have HSP := hidn (childF_spec L[k])
      generalize L[k] = s at *
      have hi0 : (0 : Int) ≤ (k : Int) := by omega
      have hi1 : (k : Int) < (L.length : Int) := by omega
      obtain ⟨⟨p1, e1, v⟩, HX⟩ : ∃ X, Hid (childF s 0 0 = X) := ⟨_, rfl⟩
      rw [HX.out] at HSP
      simp only at HSP
      go_wp2_with fail
      refine (new_reader s wr).mono ?_
      rintro x w1 ⟨rfl, rfl⟩
      have h1 := reader_new hsk (Below.refl (wr.alloc (.cells #[.string s, .int .i64 0, .int .i64 0] 231)).heap.size (wr.alloc (.cells #[.string s, .int .i64 0, .int .i64 0] 231)))
      obtain ⟨V, HV⟩ : ∃ V, Hid (V = wr.alloc (.cells #[.string s, .int .i64 0, .int .i64 0] 231)) := ⟨_, rfl⟩
      have bV := hidn ((HB.out).alloc (Nat.le_of_lt hz) (.cells #[.string s, .int .i64 0, .int .i64 0] 231))
      have rV := HR.out.below ((Below.refl _ _).alloc (Nat.le_refl _) (.cells #[.string s, .int .i64 0, .int .i64 0] 231)) hz
      have hzV : V.heap.size = wr.heap.size + 1 := by rw [HV.out]; simp
      rw [← HV.out] at h1 bV rV ⊢
      clear HV
      have HT : Hid (Calls Tryz.prog 132 #[.pointer (some ⟨wr.heap.size, 0, none⟩)] V fun x w' => x = .returned v.val ∧ IsReader w' wr.heap.size s p1 e1 ∧ Only wr.heap.size V w') := by
        have := takeChild_any h1
        rw [HX.out] at this
        exact this
      simp only [ChildV.val] at HT
      go_wp2_with fail
      refine HT.out.mono ?_
      rintro x w2 ⟨rfl, h2, o2⟩
      have r2 := rV.only o2 (by omega) (by omega)
      have b2 := hidn (o2.below bV.out (by omega) (Nat.le_refl _))
      have hz2 := o2.size
      have c0 := (r2 (k * 4) (by omega)).1
      have c1 := (r2 (k * 4 + 1) (by omega)).1
      have c2 := (r2 (k * 4 + 2) (by omega)).1
      have c3 := (r2 (k * 4 + 3) (by omega)).1
      have f0 := (r2 (k * 4) (by omega)).2
      have f1 := (r2 (k * 4 + 1) (by omega)).2
      have f2 := (r2 (k * 4 + 2) (by omega)).2
      have f3 := (r2 (k * 4 + 3) (by omega)).2
      generalize cell4 ChildV.enc [.int .u32 0, .string ⟨#[]⟩, .int .u32 0, .int .i64 0] ((L.take k).map childOf) (k * 4) = u0 at c0
      generalize cell4 ChildV.enc [.int .u32 0, .string ⟨#[]⟩, .int .u32 0, .int .i64 0] ((L.take k).map childOf) (k * 4 + 1) = u1 at c1
      generalize cell4 ChildV.enc [.int .u32 0, .string ⟨#[]⟩, .int .u32 0, .int .i64 0] ((L.take k).map childOf) (k * 4 + 2) = u2 at c2
      generalize cell4 ChildV.enc [.int .u32 0, .string ⟨#[]⟩, .int .u32 0, .int .i64 0] ((L.take k).map childOf) (k * 4 + 3) = u3 at c3
      have R3 := hidn (r2.store4 (k := k * 4) (by omega) (.int .u32 v.page) (.string v.e.key) (.int .u32 v.e.page) (.int .i64 v.e.slot))
      have h3 := nReader_setOther (nReader_setOther (nReader_setOther (nReader_setOther h2 (k := w.heap.size) (i := k * 4) (by omega) (.int .u32 v.page)) (k := w.heap.size) (i := k * 4 + 1) (by omega) (.string v.e.key)) (k := w.heap.size) (i := k * 4 + 2) (by omega) (.int .u32 v.e.page)) (k := w.heap.size) (i := k * 4 + 3) (by omega) (.int .i64 v.e.slot)
      have b3 := hidn ((((b2.out.setCell (p := ⟨w.heap.size, k * 4, none⟩) (Nat.le_refl _) (.int .u32 v.page)).setCell (p := ⟨w.heap.size, k * 4 + 1, none⟩) (Nat.le_refl _) (.string v.e.key)).setCell (p := ⟨w.heap.size, k * 4 + 2, none⟩) (Nat.le_refl _) (.int .u32 v.e.page)).setCell (p := ⟨w.heap.size, k * 4 + 3, none⟩) (Nat.le_refl _) (.int .i64 v.e.slot))
      clear HT HR r2 rV bV b2 h1
      go_wp2_with fail
      obtain ⟨w3, HW3⟩ : ∃ w3, Hid (w3 = (((w2.setCell ⟨w.heap.size, k * 4, none⟩ (.int .u32 v.page)).setCell ⟨w.heap.size, k * 4 + 1, none⟩ (.string v.e.key)).setCell ⟨w.heap.size, k * 4 + 2, none⟩ (.int .u32 v.e.page)).setCell ⟨w.heap.size, k * 4 + 3, none⟩ (.int .i64 v.e.slot)) := ⟨_, rfl⟩
      have hz3 : w3.heap.size = w2.heap.size := by rw [HW3.out]; simp
      rw [← HW3.out] at R3 h3 b3 ⊢
      clear HW3 c0 c1 c2 c3 f0 f1 f2 f3 h2 o2
      refine (end_any h3).mono ?_
      rintro x w4 ⟨rfl, h4, o4⟩
      have R4 := hidn (R3.out.only o4 (by omega) (by omega))
      have b4 := hidn (o4.below b3.out (by omega) (Nat.le_refl _))
      have hz4 := o4.size
      clear R3 b3 h3 h4 o4
      obtain ⟨E, HE⟩ : ∃ E, Hid (endE s p1 e1 = E) := ⟨_, rfl⟩
      rw [HE.out] at HSP ⊢
      cases hbs : childB s with
      | true =>
        obtain ⟨hE, hv⟩ := HSP.out.1 hbs
        subst hE
        go_wp2
        go_roundw
        case rel =>
          refine ⟨k + 1, by omega, by go_num, ?_, b4, by omega, ?_⟩
          · show RowV _ _ _ _
            rw [HM1.out, ← hv]
            refine R4.out.congr fun j hj => ?_
            rw [cell4_snoc (enc := ChildV.enc) (x := v) rfl, List.length_map, List.length_take, Nat.min_eq_left (by omega)]
          · show _ = _
            rw [HA1.out, HA.out, hbs]; rfl
        case measure => simp [intOf]; omega
      | false =>
        have hE := HSP.out.2 hbs
        have hE' : (E != 0) = true := by rw [bne_iff_ne]; exact hE
        have hF := HF.out hbs
        go_wp2
        go_ret2
        refine ⟨b4.out, fun h => ?_, fun _ => rfl⟩
        rw [hF] at h; exact absurd h (by simp)
    · obtain rfl : k = L.length := by omega
      have HA2 := HA.out
      have HR2 := HR.out
      rw [List.take_length] at HA2 HR2
      go_wp2
      go_ret2
      refine ⟨HB.out, fun _ => ⟨_, _, rfl, ?_⟩, fun h => ?_⟩
      · refine RowV.rows4 (z := [.int .u32 0, .string ⟨#[]⟩, .int .u32 0, .int .i64 0]) (fun _ => rfl) (Nat.le_refl _) hz ?_
        rw [List.length_map]; exact HR2
      · rw [HA2] at h; exact absurd h (by simp)

end Go.Proofs.YtpllidadpcahbaaGreat
