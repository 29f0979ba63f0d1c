/-
  The walks of node.takeEntry, takeItem, takeChild.
-/
import Derived.Test.YtpllidadpcahbaaGreatBase2C
import Derived.Test.YtpllidadpcahbaaGreatNewReaderC
import Derived.Test.YtpllidadpcahbaaGreatReaderMoreC
import Derived.Deep.RegionHeld3
namespace Go.Proofs.YtpllidadpcahbaaGreat
open Go.RowKit
set_option linter.unusedVariables false
set_option linter.unusedSimpArgs false

theorem hidn {p : Prop} (h : p) : Hid p := h

theorem nReader_alloc {w : World} {b : Nat} {s : ByteArray} {p : Nat} {e : Int} (h : IsReader w b s p e) (o : Obj) : IsReader (w.alloc o) b s p e := h.below ((Below.refl _ _).alloc (Nat.le_refl _) _)
theorem nOnly_alloc {b : Nat} {w w' : World} (h : Only b w w') (o : Obj) : Only b w (w'.alloc o) := h.trans (Only.of_below ((Below.refl _ _).alloc (Nat.le_refl _) _))
theorem nOnly_setNew {b : Nat} {w w' : World} (h : Only b w w') {k : Nat} (hk : w.heap.size ≤ k) (i : Nat) (v : Value) : Only b w (w'.setCell ⟨k, i, none⟩ v) :=
  ⟨h.os, h.tape, h.output, by simpa using h.size, fun j hj hb => (Below.heap_setCell _ _ _ _ (by simp; omega)).trans (h.block j hj hb)⟩
theorem nReader_setOther {w : World} {b : Nat} {s : ByteArray} {p : Nat} {e : Int} (h : IsReader w b s p e) {k i : Nat} (hk : k ≠ b) (v : Value) : IsReader (w.setCell ⟨k, i, none⟩ v) b s p e := by
  have ne : ∀ o, (⟨k, i, none⟩ : Addr) ≠ ⟨b, o, none⟩ := fun o q => hk (congrArg Addr.block q)
  exact ⟨by rw [World.cell?_setCell_other _ _ _ _ (ne 0)]; exact h.c0, by rw [World.cell?_setCell_other _ _ _ _ (ne 1)]; exact h.c1, by rw [World.cell?_setCell_other _ _ _ _ (ne 2)]; exact h.c2,
    by rw [World.frozen?_setCell]; exact h.f1, by rw [World.frozen?_setCell]; exact h.f2, h.le, h.sz, by simpa using h.lt⟩

/-- What takeEntry takes: the place, the error, the entry. -/
def entF (s : ByteArray) (p : Nat) (e : Int) : Nat × Int × EntV :=
  let n1 := numF s p e 4
  let n2 := numF s n1.1 n1.2.1 2
  let b := bytesF s n2.1 n2.2.1 ((s.size : Int) - (n2.1 : Int))
  (b.1, b.2.1, ⟨⟨b.2.2.toArray⟩, n1.2.2, (n2.2.2 : Nat)⟩)

theorem nnumF_lt (s : ByteArray) (p : Nat) (e : Int) (n : Nat) : (numF s p e (n : Int)).2.2 < 2 ^ (8 * n) := by
  have hp : 0 < 2 ^ (8 * n) := Nat.pos_of_ne_zero (by simp)
  unfold numF
  repeat' split
  all_goals first
    | exact hp
    | (refine le_lt_of ?_; unfold part; rw [List.length_take]; omega)

set_option maxHeartbeats 1600000 in
set_option maxRecDepth 60000 in
theorem takeEntry_any {w : World} {b : Nat} {s : ByteArray} {p : Nat} {e : Int} (h : IsReader w b s p e) :
    Calls Tryz.prog 142 #[.pointer (some ⟨b, 0, none⟩)] w fun x w' => x = .returned (entF s p e).2.2.val ∧ IsReader w' b s (entF s p e).1 (entF s p e).2.1 ∧ Only b w w' := by
  have hlt := h.lt
  obtain ⟨R, HR⟩ : ∃ R, Hid (entF s p e = R) := ⟨_, rfl⟩
  have HT : Hid (entF s p e = R) := HR.out
  rw [HR.out]
  unfold entF at HT
  have hk1 := nnumF_lt s p e 4
  rw [show (((4 : Nat) : Int)) = 4 from rfl] at hk1
  obtain ⟨⟨p1, e1, n1⟩, H1⟩ : ∃ X, Hid (numF s p e 4 = X) := ⟨_, rfl⟩
  rw [H1.out] at HT hk1
  simp only at HT hk1
  have hk2 := nnumF_lt s p1 e1 2
  rw [show (((2 : Nat) : Int)) = 2 from rfl] at hk2
  obtain ⟨⟨p2, e2, n2⟩, H2⟩ : ∃ X, Hid (numF s p1 e1 2 = X) := ⟨_, rfl⟩
  rw [H2.out] at HT hk2
  simp only at HT hk2
  obtain ⟨⟨p3, e3, t⟩, H3⟩ : ∃ X, Hid (bytesF s p2 e2 ((s.size : Int) - (p2 : Int)) = X) := ⟨_, rfl⟩
  rw [H3.out] at HT
  simp only at HT
  rw [← HT.out]
  clear HT HR
  have hk1' : n1 < 4294967296 := hk1
  have hk2' : n2 < 65536 := hk2
  have q1 : IntKind.u32.wrap (n1 : Int) = (n1 : Int) := by rw [IntKind.wrap_u32]; omega
  have q2 : IntKind.i64.wrap (n2 : Int) = (n2 : Int) := by rw [IntKind.wrap_i64]; omega
  clear hk1 hk2
  obtain ⟨W, HW⟩ : ∃ W, Hid (W = w.alloc (.cells #[.string ⟨#[]⟩, .int .u32 0, .int .i64 0] 28)) := ⟨_, rfl⟩
  have hrW : IsReader W b s p e := by rw [HW.out]; exact nReader_alloc h _
  have hoW : Only b w W := by rw [HW.out]; exact nOnly_alloc (Only.refl _ _) _
  have hcW : W.heap[w.heap.size]? = some (.cells #[.string ⟨#[]⟩, .int .u32 0, .int .i64 0] 28 (0, 0)) := by rw [HW.out]; exact heap_alloc_new _ _
  have hzW : w.heap.size < W.heap.size := by rw [HW.out]; simp
  have hsz := h.sz
  clear h
  simp only [EntV.val]
  go_enter Tryz.func142, Tryz.ntmps142
  go_wp2_with fail
  rw [← HW.out]
  clear HW
  refine (number_any hrW 4).mono ?_
  rintro x wa ⟨rfl, ra, oa⟩
  rw [H1.out] at ra ⊢
  simp only at ra ⊢
  have hca := (oa.block w.heap.size hzW (by omega)).trans hcW
  have hza := Nat.lt_of_lt_of_le hzW oa.size
  have hoa := hoW.trans oa
  clear hrW hcW hoW oa hzW
  go_wp2_with fail
  refine (number_any ra 2).mono ?_
  rintro x wb ⟨rfl, rb, ob⟩
  rw [H2.out] at rb ⊢
  simp only at rb ⊢
  have hcb := (ob.block w.heap.size hza (by omega)).trans hca
  have hzb := Nat.lt_of_lt_of_le hza ob.size
  have hob := hoa.trans ob
  have hble := rb.le
  clear ra hca hoa ob hza
  go_wp2_with fail
  obtain ⟨V, HV⟩ : ∃ V, Hid (V = wb.alloc (.cells #[.int .u32 n1, .int .i64 n2] 26)) := ⟨_, rfl⟩
  have hrV : ∀ k, IsReader (V.drewN k) b s p2 e2 := fun k => by rw [HV.out]; exact (nReader_alloc rb _).drewN k
  have hoV : Only b w V := by rw [HV.out]; exact nOnly_alloc hob _
  have d0 : V.cell? ⟨wb.heap.size, 0, none⟩ = some (.int .u32 n1) := by rw [HV.out]; simp
  have d1 : V.cell? ⟨wb.heap.size, 1, none⟩ = some (.int .i64 n2) := by rw [HV.out]; simp
  have hcV : V.heap[w.heap.size]? = some (.cells #[.string ⟨#[]⟩, .int .u32 0, .int .i64 0] 28 (0, 0)) := by
    rw [HV.out]; exact (((Below.refl wb.heap.size wb).alloc (Nat.le_refl _) _).block _ hzb).trans hcb
  have hzV : wb.heap.size < V.heap.size := by rw [HV.out]; simp
  rw [← HV.out]
  clear HV rb hcb hob
  have hbb : b < wb.heap.size := by omega
  go_region_held3 (fun wy => (wy.cell? ⟨wb.heap.size, 0, none⟩ = some (.int .u32 n1) ∧ wy.cell? ⟨wb.heap.size, 1, none⟩ = some (.int .i64 n2))) (first | go_keep | exact sd | exact ⟨by rw [World.cell?_setCell_other _ _ _ _ (by intro q; have := congrArg Addr.block q; simp only at this; omega), World.cell?_setCell_other _ _ _ _ (by intro q; have := congrArg Addr.block q; simp only at this; omega), World.cell?_setCell_other _ _ _ _ (by intro q; have := congrArg Addr.block q; simp only at this; omega)]; exact sd.1, by rw [World.cell?_setCell_other _ _ _ _ (by intro q; have := congrArg Addr.block q; simp only at this; omega), World.cell?_setCell_other _ _ _ _ (by intro q; have := congrArg Addr.block q; simp only at this; omega), World.cell?_setCell_other _ _ _ _ (by intro q; have := congrArg Addr.block q; simp only at this; omega)]; exact sd.2⟩)
    (first
      | (go_at_call 160; refine (left_any (hrV 1)).mono ?_; rintro x wc ⟨rfl, n, rfl⟩)
      | (go_at_call 162; refine (bytes_any (hrV _) _ (by omega)).mono ?_; rintro x wd ⟨rfl, rd, od⟩
         have sd : wd.cell? ⟨wb.heap.size, 0, none⟩ = some (.int .u32 n1) ∧ wd.cell? ⟨wb.heap.size, 1, none⟩ = some (.int .i64 n2) := ⟨(od.cell (p := ⟨wb.heap.size, 0, none⟩) hzV (by show wb.heap.size ≠ b; omega)).trans d0, (od.cell (p := ⟨wb.heap.size, 1, none⟩) hzV (by show wb.heap.size ≠ b; omega)).trans d1⟩
         have hcd := (od.block w.heap.size (by show _ < V.heap.size; omega) (by omega)).trans hcV
         have z0 : wd.cell? ⟨w.heap.size, 0, none⟩ = some (.string ⟨#[]⟩) := by unfold World.cell?; simp [hcd]
         have z1 : wd.cell? ⟨w.heap.size, 1, none⟩ = some (.int .u32 0) := by unfold World.cell?; simp [hcd]
         have z2 : wd.cell? ⟨w.heap.size, 2, none⟩ = some (.int .i64 0) := by unfold World.cell?; simp [hcd]
         have g0 : wd.frozen? ⟨w.heap.size, 0, none⟩ = false := by unfold World.frozen?; simp [hcd]
         have g1 : wd.frozen? ⟨w.heap.size, 1, none⟩ = false := by unfold World.frozen?; simp [hcd]
         have g2 : wd.frozen? ⟨w.heap.size, 2, none⟩ = false := by unfold World.frozen?; simp [hcd]
         have hod := hidn ((hoV.drewN _).trans od)
         clear hcd
         rw [H3.out] at rd ⊢
         simp only at rd ⊢))
  go_wp2
  refine bodyPost_ret (v := .agg #[.string ⟨t.toArray⟩, .int .u32 n1, .int .i64 n2]) (by simp [results, Tryz.results142, go_sem, z0, z1, z2]) rfl ⟨rfl, ?_, ?_⟩
  · exact nReader_setOther (nReader_setOther (nReader_setOther rd (by omega) _) (by omega) _) (by omega) _
  · exact nOnly_setNew (nOnly_setNew (nOnly_setNew hod.out (by omega) _ _) (by omega) _ _) (by omega) _ _

/-- What takeItem takes, what takeChild takes. -/
def itemF (s : ByteArray) (p : Nat) (e : Int) : Nat × Int × ItemV :=
  ((entF s (boolF s p e).1 (boolF s p e).2.1).1, (entF s (boolF s p e).1 (boolF s p e).2.1).2.1, ⟨(entF s (boolF s p e).1 (boolF s p e).2.1).2.2, (boolF s p e).2.2⟩)
def childF (s : ByteArray) (p : Nat) (e : Int) : Nat × Int × ChildV :=
  ((entF s (numF s p e 4).1 (numF s p e 4).2.1).1, (entF s (numF s p e 4).1 (numF s p e 4).2.1).2.1, ⟨(numF s p e 4).2.2, (entF s (numF s p e 4).1 (numF s p e 4).2.1).2.2⟩)

set_option maxHeartbeats 1600000 in
set_option maxRecDepth 60000 in
theorem takeItem_any {w : World} {b : Nat} {s : ByteArray} {p : Nat} {e : Int} (h : IsReader w b s p e) :
    Calls Tryz.prog 115 #[.pointer (some ⟨b, 0, none⟩)] w fun x w' => x = .returned (itemF s p e).2.2.val ∧ IsReader w' b s (itemF s p e).1 (itemF s p e).2.1 ∧ Only b w w' := by
  have hlt := h.lt
  unfold itemF
  obtain ⟨⟨p1, e1, l⟩, H1⟩ : ∃ X, Hid (boolF s p e = X) := ⟨_, rfl⟩
  rw [H1.out]
  simp only
  obtain ⟨⟨p2, e2, ⟨K, P, S⟩⟩, H2⟩ : ∃ X, Hid (entF s p1 e1 = X) := ⟨_, rfl⟩
  rw [H2.out]
  simp only [ItemV.val]
  obtain ⟨W, HW⟩ : ∃ W, Hid (W = w.alloc (.cells #[.string ⟨#[]⟩, .int .u32 0, .int .i64 0, .bool false] 42)) := ⟨_, rfl⟩
  have hrW : IsReader W b s p e := by rw [HW.out]; exact nReader_alloc h _
  have hoW : Only b w W := by rw [HW.out]; exact nOnly_alloc (Only.refl _ _) _
  have hcW : W.heap[w.heap.size]? = some (.cells #[.string ⟨#[]⟩, .int .u32 0, .int .i64 0, .bool false] 42 (0, 0)) := by rw [HW.out]; exact heap_alloc_new _ _
  have hzW : w.heap.size < W.heap.size := by rw [HW.out]; simp
  clear h
  go_enter Tryz.func115, Tryz.ntmps115
  go_wp2_with fail
  rw [← HW.out]
  clear HW
  refine (bool_any hrW).mono ?_
  rintro x wa ⟨rfl, ra, oa⟩
  rw [H1.out] at ra ⊢
  simp only at ra ⊢
  go_wp2_with fail
  refine (takeEntry_any ra).mono ?_
  rintro x wd ⟨rfl, rd, ob⟩
  rw [H2.out] at rd ⊢
  simp only [EntV.val] at rd ⊢
  have hcd := (ob.block w.heap.size (Nat.lt_of_lt_of_le hzW oa.size) (by omega)).trans ((oa.block w.heap.size hzW (by omega)).trans hcW)
  have hod := hidn ((hoW.trans oa).trans ob)
  have z0 : wd.cell? ⟨w.heap.size, 0, none⟩ = some (.string ⟨#[]⟩) := by unfold World.cell?; simp [hcd]
  have z1 : wd.cell? ⟨w.heap.size, 1, none⟩ = some (.int .u32 0) := by unfold World.cell?; simp [hcd]
  have z2 : wd.cell? ⟨w.heap.size, 2, none⟩ = some (.int .i64 0) := by unfold World.cell?; simp [hcd]
  have z3 : wd.cell? ⟨w.heap.size, 3, none⟩ = some (.bool false) := by unfold World.cell?; simp [hcd]
  have g0 : wd.frozen? ⟨w.heap.size, 0, none⟩ = false := by unfold World.frozen?; simp [hcd]
  have g1 : wd.frozen? ⟨w.heap.size, 1, none⟩ = false := by unfold World.frozen?; simp [hcd]
  have g2 : wd.frozen? ⟨w.heap.size, 2, none⟩ = false := by unfold World.frozen?; simp [hcd]
  have g3 : wd.frozen? ⟨w.heap.size, 3, none⟩ = false := by unfold World.frozen?; simp [hcd]
  clear hcd ra oa ob hrW hoW hcW
  go_wp2
  refine bodyPost_ret (v := .agg #[.string K, .int .u32 P, .int .i64 S, .bool l]) (by simp [results, Tryz.results115, go_sem, z0, z1, z2, z3]) rfl ⟨rfl, ?_, ?_⟩
  · exact nReader_setOther (nReader_setOther (nReader_setOther (nReader_setOther rd (by omega) _) (by omega) _) (by omega) _) (by omega) _
  · exact nOnly_setNew (nOnly_setNew (nOnly_setNew (nOnly_setNew hod.out (by omega) _ _) (by omega) _ _) (by omega) _ _) (by omega) _ _

set_option maxHeartbeats 1600000 in
set_option maxRecDepth 60000 in
theorem takeChild_any {w : World} {b : Nat} {s : ByteArray} {p : Nat} {e : Int} (h : IsReader w b s p e) :
    Calls Tryz.prog 132 #[.pointer (some ⟨b, 0, none⟩)] w fun x w' => x = .returned (childF s p e).2.2.val ∧ IsReader w' b s (childF s p e).1 (childF s p e).2.1 ∧ Only b w w' := by
  have hlt := h.lt
  unfold childF
  have hk1 := nnumF_lt s p e 4
  rw [show (((4 : Nat) : Int)) = 4 from rfl] at hk1
  obtain ⟨⟨p1, e1, l⟩, H1⟩ : ∃ X, Hid (numF s p e 4 = X) := ⟨_, rfl⟩
  rw [H1.out] at hk1 ⊢
  simp only at hk1 ⊢
  have hk1' : l < 4294967296 := hk1
  have q1 : IntKind.u32.wrap (l : Int) = (l : Int) := by rw [IntKind.wrap_u32]; omega
  clear hk1
  obtain ⟨⟨p2, e2, ⟨K, P, S⟩⟩, H2⟩ : ∃ X, Hid (entF s p1 e1 = X) := ⟨_, rfl⟩
  rw [H2.out]
  simp only [ChildV.val]
  obtain ⟨W, HW⟩ : ∃ W, Hid (W = w.alloc (.cells #[.int .u32 0, .string ⟨#[]⟩, .int .u32 0, .int .i64 0] 74)) := ⟨_, rfl⟩
  have hrW : IsReader W b s p e := by rw [HW.out]; exact nReader_alloc h _
  have hoW : Only b w W := by rw [HW.out]; exact nOnly_alloc (Only.refl _ _) _
  have hcW : W.heap[w.heap.size]? = some (.cells #[.int .u32 0, .string ⟨#[]⟩, .int .u32 0, .int .i64 0] 74 (0, 0)) := by rw [HW.out]; exact heap_alloc_new _ _
  have hzW : w.heap.size < W.heap.size := by rw [HW.out]; simp
  clear h
  go_enter Tryz.func132, Tryz.ntmps132
  go_wp2_with fail
  rw [← HW.out]
  clear HW
  refine (number_any hrW 4).mono ?_
  rintro x wa ⟨rfl, ra, oa⟩
  rw [H1.out] at ra ⊢
  simp only at ra ⊢
  go_wp2_with fail
  refine (takeEntry_any ra).mono ?_
  rintro x wd ⟨rfl, rd, ob⟩
  rw [H2.out] at rd ⊢
  simp only [EntV.val] at rd ⊢
  have hcd := (ob.block w.heap.size (Nat.lt_of_lt_of_le hzW oa.size) (by omega)).trans ((oa.block w.heap.size hzW (by omega)).trans hcW)
  have hod := hidn ((hoW.trans oa).trans ob)
  have z0 : wd.cell? ⟨w.heap.size, 0, none⟩ = some (.int .u32 0) := by unfold World.cell?; simp [hcd]
  have z1 : wd.cell? ⟨w.heap.size, 1, none⟩ = some (.string ⟨#[]⟩) := by unfold World.cell?; simp [hcd]
  have z2 : wd.cell? ⟨w.heap.size, 2, none⟩ = some (.int .u32 0) := by unfold World.cell?; simp [hcd]
  have z3 : wd.cell? ⟨w.heap.size, 3, none⟩ = some (.int .i64 0) := by unfold World.cell?; simp [hcd]
  have g0 : wd.frozen? ⟨w.heap.size, 0, none⟩ = false := by unfold World.frozen?; simp [hcd]
  have g1 : wd.frozen? ⟨w.heap.size, 1, none⟩ = false := by unfold World.frozen?; simp [hcd]
  have g2 : wd.frozen? ⟨w.heap.size, 2, none⟩ = false := by unfold World.frozen?; simp [hcd]
  have g3 : wd.frozen? ⟨w.heap.size, 3, none⟩ = false := by unfold World.frozen?; simp [hcd]
  clear hcd ra oa ob hrW hoW hcW
  go_wp2
  refine bodyPost_ret (v := .agg #[.int .u32 l, .string K, .int .u32 P, .int .i64 S]) (by simp [results, Tryz.results132, go_sem, z0, z1, z2, z3]) rfl ⟨rfl, ?_, ?_⟩
  · exact nReader_setOther (nReader_setOther (nReader_setOther (nReader_setOther rd (by omega) _) (by omega) _) (by omega) _) (by omega) _
  · exact nOnly_setNew (nOnly_setNew (nOnly_setNew (nOnly_setNew hod.out (by omega) _ _) (by omega) _ _) (by omega) _ _) (by omega) _ _

theorem entF_ok (s : ByteArray) (p : Nat) (h : p + 6 ≤ s.size) : entF s p 0 = (s.size, 0, ⟨⟨(part s (p + 6) (s.size - (p + 6))).toArray⟩, le (part s p 4), (le (part s (p + 4) 2) : Nat)⟩) := by
  have h1 : numF s p 0 4 = (p + 4, 0, le (part s p 4)) := numF_ok 4 (by omega) (by omega)
  have h2 : numF s (p + 4) 0 2 = (p + 4 + 2, 0, le (part s (p + 4) 2)) := numF_ok 2 (by omega) (by omega)
  have h3 : bytesF s (p + 6) 0 ((s.size : Int) - ((p + 6 : Nat) : Int)) = (p + 6 + (s.size - (p + 6)), 0, part s (p + 6) (s.size - (p + 6))) := by
    rw [show (s.size : Int) - ((p + 6 : Nat) : Int) = ((s.size - (p + 6) : Nat) : Int) from by omega]
    exact bytesF_ok _ (by omega)
  unfold entF
  simp only [h1, h2]
  rw [show p + 4 + 2 = p + 6 from rfl, h3]
  simp only
  rw [show p + 6 + (s.size - (p + 6)) = s.size from by omega]

theorem entF_err {s : ByteArray} {p : Nat} {e : Int} (h : e ≠ 0) : (entF s p e).2.1 ≠ 0 := by
  unfold entF
  simp only [numF_err h, bytesF_err h]
  exact h

theorem entF_cut {s : ByteArray} {p : Nat} (hp : p ≤ s.size) (h : s.size < p + 6) : (entF s p 0).2.1 ≠ 0 := by
  unfold entF
  by_cases h1 : s.size < p + 4
  · have e1 : numF s p 0 4 = (p, 4, 0) := numF_cut 4 (by omega) h1
    simp only [e1, numF_err (show (4 : Int) ≠ 0 by omega), bytesF_err (show (4 : Int) ≠ 0 by omega)]
    decide
  · have e1 : numF s p 0 4 = (p + 4, 0, le (part s p 4)) := numF_ok 4 (by omega) (by omega)
    have e2 : numF s (p + 4) 0 2 = (p + 4, 4, 0) := numF_cut 2 (by omega) (by omega)
    simp only [e1, e2, bytesF_err (show (4 : Int) ≠ 0 by omega)]
    decide

theorem endE_err {s : ByteArray} {p : Nat} {e : Int} (h : e ≠ 0) : endE s p e ≠ 0 := by
  unfold endE; rw [if_neg (by intro q; exact h q.1)]; exact h

theorem itemF_spec (s : ByteArray) : (itemB s = true → endE s (itemF s 0 0).1 (itemF s 0 0).2.1 = 0 ∧ (itemF s 0 0).2.2 = itemOf s) ∧ (itemB s = false → endE s (itemF s 0 0).1 (itemF s 0 0).2.1 ≠ 0) := by
  unfold itemF
  refine ⟨fun h => ?_, fun h => ?_⟩
  · unfold itemB at h
    simp only [Bool.and_eq_true, decide_eq_true_eq] at h
    rw [boolF_ok (by omega) h.2]
    simp only [Nat.zero_add]
    rw [entF_ok s 1 (by omega)]
    exact ⟨by unfold endE; rw [if_neg (by simp)], rfl⟩
  · unfold itemB at h
    simp only [Bool.and_eq_false_iff, decide_eq_false_iff_not] at h
    refine endE_err ?_
    by_cases h1 : s.size < 0 + 1
    · rw [boolF_cut h1]; exact entF_err (by decide)
    · by_cases h2 : 1 < le (part s 0 1)
      · rw [boolF_form (by omega) h2]; exact entF_err (by decide)
      · rw [boolF_ok (by omega) (by omega)]; exact entF_cut (by omega) (by omega)

theorem childF_spec (s : ByteArray) : (childB s = true → endE s (childF s 0 0).1 (childF s 0 0).2.1 = 0 ∧ (childF s 0 0).2.2 = childOf s) ∧ (childB s = false → endE s (childF s 0 0).1 (childF s 0 0).2.1 ≠ 0) := by
  unfold childF
  refine ⟨fun h => ?_, fun h => ?_⟩
  · unfold childB at h
    simp only [decide_eq_true_eq] at h
    rw [show numF s 0 0 4 = (0 + 4, 0, le (part s 0 4)) from numF_ok 4 (by omega) (by omega)]
    simp only [Nat.zero_add]
    rw [entF_ok s 4 (by omega)]
    exact ⟨by unfold endE; rw [if_neg (by simp)], rfl⟩
  · unfold childB at h
    simp only [decide_eq_false_iff_not] at h
    refine endE_err ?_
    by_cases h1 : s.size < 0 + 4
    · rw [show numF s 0 0 4 = (0, 4, 0) from numF_cut 4 (by omega) h1]; exact entF_err (by decide)
    · rw [show numF s 0 0 4 = (0 + 4, 0, le (part s 0 4)) from numF_ok 4 (by omega) (by omega)]; exact entF_cut (by omega) (by omega)

end Go.Proofs.YtpllidadpcahbaaGreat
