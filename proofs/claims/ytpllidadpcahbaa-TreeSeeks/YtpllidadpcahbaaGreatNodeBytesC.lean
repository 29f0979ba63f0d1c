/-
  The walks of node.putEntry, itemBytes, childBytes.
-/
import Derived.Test.YtpllidadpcahbaaGreatBase2C
import Derived.Test.YtpllidadpcahbaaGreatWriterSafeC
namespace Go.Proofs.YtpllidadpcahbaaGreat
open Go.RowKit
set_option linter.unusedVariables false
set_option linter.unusedSimpArgs false

theorem hidb {p : Prop} (h : p) : Hid p := h

theorem toU_wrap (s : Int) : IntKind.u64.wrap s = ((toU s : Nat) : Int) := by rw [IntKind.wrap_u64]; unfold toU; omega

set_option maxHeartbeats 1600000 in
set_option maxRecDepth 60000 in
theorem putEntry_any {w : World} {b : Nat} {l : List UInt8} {a : Option Addr} {c : Nat} (h : IsWriter w b l a c) (e : EntV) (hp : e.page < 4294967296) (hl : l.length + e.key.size + 64 ≤ 140737488355328) :
    Calls Tryz.prog 117 #[.pointer (some ⟨b, 0, none⟩), e.val] w fun x w' => x = .returned (.tuple #[]) ∧ (∃ a' c', IsWriter w' b (l ++ e.bytes) a' c') ∧ Below b w w' ∧ WSafe b w w' := by
  have hlt := h.lt
  obtain ⟨K, P, S⟩ := e
  simp only [EntV.val] at hp hl ⊢
  have q1 : IntKind.u64.wrap (P : Int) = (P : Int) := by rw [IntKind.wrap_u64]; omega
  have q2 := toU_wrap S
  have hu := u64_lt S
  have HB : Hid (l ++ (EntV.mk K P S).bytes = l ++ putL P (longOf 4) ++ putL (toU S) (longOf 2) ++ K.data.toList) := by
    show _ = _
    unfold EntV.bytes
    rw [show longOf 4 = 4 from by decide, show longOf 2 = 2 from by decide]
    simp [List.append_assoc]
  rw [HB.out]
  clear HB
  generalize toU S = U at *
  obtain ⟨W, HW⟩ : ∃ W, Hid (W = w.alloc (.cells #[.string K, .int .u32 P, .int .i64 S] 28)) := ⟨_, rfl⟩
  have hwW : IsWriter W b l a c := by rw [HW.out]; exact h.below ((Below.refl _ _).alloc (Nat.le_refl _) _)
  have hcW : W.heap[w.heap.size]? = some (.cells #[.string K, .int .u32 P, .int .i64 S] 28 (0, 0)) := by rw [HW.out]; exact heap_alloc_new _ _
  have bW : Below b w W := by rw [HW.out]; exact (Below.refl _ _).alloc (by omega) _
  have sW : WSafe b w W := by rw [HW.out]; exact WSafe.of_below ((Below.refl _ _).alloc (Nat.le_refl _) _)
  have y0 : W.cell? ⟨w.heap.size, 1, none⟩ = some (.int .u32 P) := by unfold World.cell?; simp [hcW]
  have hne : w.heap.size ≠ b := by omega
  clear h
  go_enter Tryz.func117, Tryz.ntmps117
  go_wp2_with fail
  rw [← HW.out]
  clear HW
  refine (wnumber_s hwW P 4 (by omega) (by omega)).mono ?_
  rintro x w1 ⟨rfl, ⟨a1, c1, h1⟩, b1, s1⟩
  have hc1 := s1 _ _ _ hne (by decide) hcW
  have B1 := hidb (bW.trans b1)
  have S1 := hidb (sW.trans s1)
  have y1 : w1.cell? ⟨w.heap.size, 2, none⟩ = some (.int .i64 S) := by unfold World.cell?; simp [hc1]
  clear y0 hcW hwW bW sW b1 s1
  have hlen1 : (l ++ putL P (longOf 4)).length = l.length + 4 := by rw [List.length_append, putL_length]; rfl
  go_wp2_with fail
  refine (wnumber_s h1 U 2 (by omega) (by omega)).mono ?_
  rintro x w2 ⟨rfl, ⟨a2, c2, h2⟩, b2, s2⟩
  have hc2 := s2 _ _ _ hne (by decide) hc1
  have B2 := hidb (B1.out.trans b2)
  have S2 := hidb (S1.out.trans s2)
  have y2 : w2.cell? ⟨w.heap.size, 0, none⟩ = some (.string K) := by unfold World.cell?; simp [hc2]
  clear y1 hc1 h1 B1 S1 b2 s2
  have hlen2 : (l ++ putL P (longOf 4) ++ putL U (longOf 2)).length = l.length + 6 := by rw [List.length_append, hlen1, putL_length]; rfl
  go_wp2_with fail
  refine (wbytes_s h2 K (by omega)).mono ?_
  rintro x w3 ⟨rfl, h3, b3, s3⟩
  go_wp2
  go_end0
  exact ⟨rfl, h3, B2.out.trans b3, S2.out.trans s3⟩

theorem putL_bool (v : Bool) : putL v.toNat 1 = [if v = true then 1 else 0] := by cases v <;> rfl

set_option maxHeartbeats 1600000 in
set_option maxRecDepth 60000 in
theorem itemBytes_any (x : ItemV) (w : World) (hp : x.e.page < 4294967296) (hk : x.e.key.size ≤ 140737488351232) :
    Calls Tryz.prog 82 #[x.val] w fun e w' => e = .returned (.string x.bs) ∧ Below w.heap.size w w' := by
  have HB : Hid (x.bs = ⟨([] ++ putL x.live.toNat 1 ++ x.e.bytes).toArray⟩) := by show _ = _; unfold ItemV.bs ItemV.bytes; rw [putL_bool]; rfl
  rw [HB.out]
  clear HB
  have HP : Hid (∀ (wx : World) (a : Option Addr) (c : Nat), IsWriter wx (w.heap.size + 1) ([] ++ putL x.live.toNat 1) a c → Calls Tryz.prog 117 #[.pointer (some ⟨w.heap.size + 1, 0, none⟩), x.e.val] wx fun y w' => y = .returned (.tuple #[]) ∧ (∃ a' c', IsWriter w' (w.heap.size + 1) ([] ++ putL x.live.toNat 1 ++ x.e.bytes) a' c') ∧ Below (w.heap.size + 1) wx w' ∧ WSafe (w.heap.size + 1) wx w') := fun wx a c h =>
    putEntry_any h x.e hp (by rw [List.length_append, putL_length]; simp; omega)
  obtain ⟨⟨K, P, S⟩, v⟩ := x
  simp only [ItemV.val, EntV.val] at *
  generalize (EntV.mk K P S).bytes = E at *
  obtain ⟨W, HW⟩ : ∃ W, Hid (W = w.alloc (.cells #[.string K, .int .u32 P, .int .i64 S, .bool v] 42)) := ⟨_, rfl⟩
  have hcW : W.heap[w.heap.size]? = some (.cells #[.string K, .int .u32 P, .int .i64 S, .bool v] 42 (0, 0)) := by rw [HW.out]; exact heap_alloc_new _ _
  have bW : Below w.heap.size w W := by rw [HW.out]; exact (Below.refl _ _).alloc (Nat.le_refl _) _
  have hzW : W.heap.size = w.heap.size + 1 := by rw [HW.out]; simp
  go_enter Tryz.func82, Tryz.ntmps82
  go_wp2_with fail
  rw [← HW.out]
  clear HW
  refine (new_writer W).mono ?_
  rintro x w1 ⟨rfl, h1, b1⟩
  rw [hzW] at h1 b1 ⊢
  have hc1 := (b1.block w.heap.size (by omega)).trans hcW
  have y1 : w1.cell? ⟨w.heap.size, 3, none⟩ = some (.bool v) := by unfold World.cell?; simp [hc1]
  have B1 := hidb (bW.trans (b1.mono (by omega)))
  clear hcW bW b1
  go_wp2_with fail
  refine (wbool_s h1 v (by simp)).mono ?_
  rintro x w2 ⟨rfl, ⟨a2, c2, h2⟩, b2, s2⟩
  have hc2 := s2 _ _ _ (by omega) (by decide) hc1
  have B2 := hidb (B1.out.trans (b2.mono (by omega)))
  have d0 : w2.cell? ⟨w.heap.size, 0, none⟩ = some (.string K) := by unfold World.cell?; simp [hc2]
  have d1 : w2.cell? ⟨w.heap.size, 1, none⟩ = some (.int .u32 P) := by unfold World.cell?; simp [hc2]
  have d2 : w2.cell? ⟨w.heap.size, 2, none⟩ = some (.int .i64 S) := by unfold World.cell?; simp [hc2]
  clear y1 hc1 h1 B1 b2 s2
  go_wp2_with fail
  refine (HP.out _ _ _ h2).mono ?_
  rintro x w3 ⟨rfl, ⟨a3, c3, h3⟩, b3, s3⟩
  have B3 := hidb (B2.out.trans (b3.mono (by omega)))
  go_wp2_with fail
  refine (wall_any h3).mono ?_
  rintro x w4 ⟨rfl, rfl⟩
  go_wp2
  go_ret
  exact ⟨rfl, B3.out⟩

set_option maxHeartbeats 1600000 in
set_option maxRecDepth 60000 in
theorem childBytes_any (x : ChildV) (w : World) (hq : x.page < 4294967296) (hp : x.e.page < 4294967296) (hk : x.e.key.size ≤ 140737488351232) :
    Calls Tryz.prog 83 #[x.val] w fun e w' => e = .returned (.string x.bs) ∧ Below w.heap.size w w' := by
  have HB : Hid (x.bs = ⟨([] ++ putL x.page (longOf 4) ++ x.e.bytes).toArray⟩) := by show _ = _; unfold ChildV.bs ChildV.bytes; rw [show longOf 4 = 4 from by decide]; rfl
  rw [HB.out]
  clear HB
  have HP : Hid (∀ (wx : World) (a : Option Addr) (c : Nat), IsWriter wx (w.heap.size + 1) ([] ++ putL x.page (longOf 4)) a c → Calls Tryz.prog 117 #[.pointer (some ⟨w.heap.size + 1, 0, none⟩), x.e.val] wx fun y w' => y = .returned (.tuple #[]) ∧ (∃ a' c', IsWriter w' (w.heap.size + 1) ([] ++ putL x.page (longOf 4) ++ x.e.bytes) a' c') ∧ Below (w.heap.size + 1) wx w' ∧ WSafe (w.heap.size + 1) wx w') := fun wx a c h =>
    putEntry_any h x.e hp (by rw [List.length_append, putL_length, show longOf 4 = 4 from by decide]; simp; omega)
  obtain ⟨Q, ⟨K, P, S⟩⟩ := x
  simp only [ChildV.val, EntV.val] at *
  generalize (EntV.mk K P S).bytes = E at *
  have q1 : IntKind.u64.wrap (Q : Int) = (Q : Int) := by rw [IntKind.wrap_u64]; omega
  obtain ⟨W, HW⟩ : ∃ W, Hid (W = w.alloc (.cells #[.int .u32 Q, .string K, .int .u32 P, .int .i64 S] 74)) := ⟨_, rfl⟩
  have hcW : W.heap[w.heap.size]? = some (.cells #[.int .u32 Q, .string K, .int .u32 P, .int .i64 S] 74 (0, 0)) := by rw [HW.out]; exact heap_alloc_new _ _
  have bW : Below w.heap.size w W := by rw [HW.out]; exact (Below.refl _ _).alloc (Nat.le_refl _) _
  have hzW : W.heap.size = w.heap.size + 1 := by rw [HW.out]; simp
  go_enter Tryz.func83, Tryz.ntmps83
  go_wp2_with fail
  rw [← HW.out]
  clear HW
  refine (new_writer W).mono ?_
  rintro x w1 ⟨rfl, h1, b1⟩
  rw [hzW] at h1 b1 ⊢
  have hc1 := (b1.block w.heap.size (by omega)).trans hcW
  have y1 : w1.cell? ⟨w.heap.size, 0, none⟩ = some (.int .u32 Q) := by unfold World.cell?; simp [hc1]
  have B1 := hidb (bW.trans (b1.mono (by omega)))
  clear hcW bW b1
  go_wp2_with fail
  refine (wnumber_s h1 Q 4 (by omega) (by simp)).mono ?_
  rintro x w2 ⟨rfl, ⟨a2, c2, h2⟩, b2, s2⟩
  have hc2 := s2 _ _ _ (by omega) (by decide) hc1
  have B2 := hidb (B1.out.trans (b2.mono (by omega)))
  have d0 : w2.cell? ⟨w.heap.size, 1, none⟩ = some (.string K) := by unfold World.cell?; simp [hc2]
  have d1 : w2.cell? ⟨w.heap.size, 2, none⟩ = some (.int .u32 P) := by unfold World.cell?; simp [hc2]
  have d2 : w2.cell? ⟨w.heap.size, 3, none⟩ = some (.int .i64 S) := by unfold World.cell?; simp [hc2]
  clear y1 hc1 h1 B1 b2 s2
  go_wp2_with fail
  refine (HP.out _ _ _ h2).mono ?_
  rintro x w3 ⟨rfl, ⟨a3, c3, h3⟩, b3, s3⟩
  have B3 := hidb (B2.out.trans (b3.mono (by omega)))
  go_wp2_with fail
  refine (wall_any h3).mono ?_
  rintro x w4 ⟨rfl, rfl⟩
  go_wp2
  go_ret
  exact ⟨rfl, B3.out⟩

end Go.Proofs.YtpllidadpcahbaaGreat
