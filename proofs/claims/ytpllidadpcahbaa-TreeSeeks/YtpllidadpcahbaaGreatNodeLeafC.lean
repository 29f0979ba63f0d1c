/-
  The walks of node.isLeaf, isInner, Leaf, Inner, Next, Level.
-/
import Derived.Test.YtpllidadpcahbaaGreatNodeAllC
import Derived.Test.YtpllidadpcahbaaGreatBase2C
namespace Go.Proofs.YtpllidadpcahbaaGreat
open Go.RowKit
set_option linter.unusedVariables false
set_option linter.unusedSimpArgs false

def leafH (p : SheetV) : Bool := decide (p.kind = 3) && decide (p.head.size = 4)
def innerH (p : SheetV) : Bool := decide (p.kind = 4) && decide (p.head.size = 1)
def leafB (p : SheetV) : Bool := leafH p && p.slots.all itemB
def innerB (p : SheetV) : Bool := innerH p && p.slots.all childB

theorem nret_bool {a b : Bool} (h : a = b) : Ending.returned (.bool a) = .returned (.bool b) := by rw [h]
theorem nret_int {k : IntKind} {a b : Int} (h : a = b) : Ending.returned (.int k a) = .returned (.int k b) := by rw [h]

set_option maxHeartbeats 1600000 in
set_option maxRecDepth 60000 in
theorem isLeaf_any (p : SheetV) (a : Option Addr) (c : Nat) (w : World) :
    Calls Tryz.prog 113 #[p.val a c] w fun e w' => e = .returned (.bool (leafH p)) ∧ Below w.heap.size w w' := by
  obtain ⟨num, lsn, kind, hd, L⟩ := p
  unfold leafH
  simp only [SheetV.val]
  by_cases hk : kind = 3
  · subst hk
    go_enter Tryz.func113, Tryz.ntmps113
    go_wp2
    go_ret
    refine ⟨nret_bool ?_, (Below.refl _ _).alloc (Nat.le_refl _) _⟩
    by_cases h4 : hd.size = 4
    · simp [h4]
    · simp [h4]; try omega
  · have hk' : (kind == 3) = false := by rw [beq_eq_false_iff_ne]; exact hk
    go_enter Tryz.func113, Tryz.ntmps113
    go_wp2
    go_ret
    exact ⟨nret_bool (by simp [hk]), (Below.refl _ _).alloc (Nat.le_refl _) _⟩

set_option maxHeartbeats 1600000 in
set_option maxRecDepth 60000 in
theorem leaf_any (p : SheetV) (a : Option Addr) (c : Nat) (w : World) (hp : p.Ok w a) (hl : p.slots.length ≤ 7036874417766) :
    Calls Tryz.prog 81 #[p.val a c] w fun x w' => Below w.heap.size w w' ∧
      (leafB p = true → ∃ a' c', x = .returned (.tuple #[.slice a' p.slots.length c', .int .i64 0]) ∧ RowsFrom w.heap.size 4 ItemV.enc w' a' (p.slots.map itemOf)) ∧
      (leafB p = false → x = .returned (.tuple #[.slice none 0 0, .int .i64 120])) := by
  have HI : Hid (∀ wx, Calls Tryz.prog 113 #[p.val a c] wx fun e w' => e = .returned (.bool (leafH p)) ∧ Below wx.heap.size wx w') := fun wx => isLeaf_any p a c wx
  have HM := hidn hp.mem
  have HS := hidn hp.slots
  have HB : Hid (leafB p = (leafH p && p.slots.all itemB)) := rfl
  generalize leafB p = B at *
  generalize leafH p = H at *
  clear hp
  obtain ⟨num, lsn, kind, hd, L⟩ := p
  simp only [SheetV.val] at *
  obtain ⟨W, HW⟩ : ∃ W, Hid (W = w.alloc (.cells #[.int .u32 num, .int .u64 lsn, .int .i64 kind, .string hd, .slice a L.length c] 63)) := ⟨_, rfl⟩
  have rW : RowV W w.heap.size 5 (five (.int .u32 num) (.int .u64 lsn) (.int .i64 kind) (.string hd) (.slice a L.length c)) := by rw [HW.out]; exact RowV.five_new _ _ _ _ _ _ _
  have bW : Below w.heap.size w W := by rw [HW.out]; exact (Below.refl _ _).alloc (Nat.le_refl _) _
  have zW : w.heap.size < W.heap.size := by rw [HW.out]; simp
  go_enter Tryz.func81, Tryz.ntmps81
  go_wp2_with fail
  rw [← HW.out]
  clear HW
  refine (HI.out _).mono ?_
  rintro x w1 ⟨rfl, b1⟩
  have r1 := rW.below b1 zW
  have bb := hidn (below_chain bW b1)
  have z1 := Nat.lt_of_lt_of_le zW b1.size
  clear rW bW b1
  obtain ⟨x0, x1, x2, x3, x4⟩ := r1.cells5
  cases H with
  | false =>
    go_wp2
    go_ret2
    refine ⟨bb.out, fun h => ?_, fun _ => rfl⟩
    rw [HB.out] at h; simp at h
  | true =>
    go_wp2_with fail
    refine (takeAllI_any a c L w1 (HM.out.below bb.out) hl (fun s hs => Nat.le_trans (HS.out s hs) (by omega))).mono ?_
    rintro x w2 ⟨b2, hyes, hno⟩
    have b3 := below_chain bb.out b2
    simp only [Bool.true_and] at HB
    cases hA : L.all itemB with
    | true =>
      obtain ⟨a', c', rfl, hr⟩ := hyes hA
      go_wp2
      go_ret2
      refine ⟨b3, fun _ => ⟨a', c', rfl, ?_⟩, fun h => ?_⟩
      · rcases hr with hr | ⟨b, o, e, hb1, hb2, hc⟩
        · exact .inl hr
        · exact .inr ⟨b, o, e, Nat.le_trans bb.out.size hb1, hb2, hc⟩
      · rw [HB.out, hA] at h; exact absurd h (by simp)
    | false =>
      obtain rfl := hno hA
      go_wp2
      go_ret2
      refine ⟨b3, fun h => ?_, fun _ => rfl⟩
      rw [HB.out, hA] at h; exact absurd h (by simp)

def nextF (p : SheetV) : Nat := if leafH p = true then le (part p.head 0 4) else 0

set_option maxHeartbeats 1600000 in
set_option maxRecDepth 60000 in
theorem next_any (p : SheetV) (a : Option Addr) (c : Nat) (w : World) :
    Calls Tryz.prog 95 #[p.val a c] w fun e w' => e = .returned (.int .u32 (nextF p)) ∧ Below w.heap.size w w' := by
  have HI : Hid (∀ wx, Calls Tryz.prog 113 #[p.val a c] wx fun e w' => e = .returned (.bool (leafH p)) ∧ Below wx.heap.size wx w') := fun wx => isLeaf_any p a c wx
  have HB : Hid (nextF p = if leafH p = true then le (part p.head 0 4) else 0) := rfl
  have HL : Hid (leafH p = true → p.head.size = 4) := fun h => by unfold leafH at h; simp at h; exact h.2
  generalize nextF p = R at *
  generalize leafH p = H at *
  obtain ⟨num, lsn, kind, hd, L⟩ := p
  simp only [SheetV.val] at *
  obtain ⟨W, HW⟩ : ∃ W, Hid (W = w.alloc (.cells #[.int .u32 num, .int .u64 lsn, .int .i64 kind, .string hd, .slice a L.length c] 63)) := ⟨_, rfl⟩
  have rW : RowV W w.heap.size 5 (five (.int .u32 num) (.int .u64 lsn) (.int .i64 kind) (.string hd) (.slice a L.length c)) := by rw [HW.out]; exact RowV.five_new _ _ _ _ _ _ _
  have bW : Below w.heap.size w W := by rw [HW.out]; exact (Below.refl _ _).alloc (Nat.le_refl _) _
  have zW : w.heap.size < W.heap.size := by rw [HW.out]; simp
  go_enter Tryz.func95, Tryz.ntmps95
  go_wp2_with fail
  rw [← HW.out]
  clear HW
  refine (HI.out _).mono ?_
  rintro x w1 ⟨rfl, b1⟩
  have r1 := rW.below b1 zW
  have bb := hidn (below_chain bW b1)
  have z1 := Nat.lt_of_lt_of_le zW b1.size
  clear rW bW b1
  obtain ⟨x0, x1, x2, x3, x4⟩ := r1.cells5
  cases H with
  | false =>
    go_wp2
    go_ret
    refine ⟨nret_int ?_, bb.out⟩
    rw [HB.out]; simp
  | true =>
    have hsz := HL.out rfl
    go_wp2_with fail
    refine (new_reader hd w1).mono ?_
    rintro x w2 ⟨rfl, rfl⟩
    have h1 := reader_new (t := 231) (w := w1) (s := hd) (by omega) (Below.refl _ _)
    have bV := hidn (bb.out.alloc (Nat.le_of_lt z1) (.cells #[.string hd, .int .i64 0, .int .i64 0] 231))
    obtain ⟨V, HV⟩ : ∃ V, Hid (V = w1.alloc (.cells #[.string hd, .int .i64 0, .int .i64 0] 231)) := ⟨_, rfl⟩
    rw [← HV.out] at h1 bV ⊢
    clear HV
    have HN := hidn (number_any h1 4)
    rw [show numF hd 0 0 4 = (0 + 4, 0, le (part hd 0 4)) from numF_ok 4 (by omega) (by omega)] at HN
    have hlt : le (part hd 0 4) < 4294967296 := le_lt_of (l := part hd 0 4) (n := 4) (by rw [part_length (by omega)]; omega)
    obtain ⟨Q, HQ⟩ : ∃ Q, Hid (le (part hd 0 4) = Q) := ⟨_, rfl⟩
    rw [HQ.out] at hlt HN HB
    have q1 : IntKind.u32.wrap (Q : Int) = (Q : Int) := by rw [IntKind.wrap_u32]; omega
    go_wp2_with fail
    refine HN.out.mono ?_
    rintro x w3 ⟨rfl, h3, o3⟩
    have b3 := hidn (o3.below bV.out (by omega) (Nat.le_refl _))
    clear HN
    go_wp2
    go_ret
    refine ⟨nret_int ?_, b3.out⟩
    rw [HB.out]; simp

set_option maxHeartbeats 1600000 in
set_option maxRecDepth 60000 in
theorem isInner_any (p : SheetV) (a : Option Addr) (c : Nat) (w : World) :
    Calls Tryz.prog 130 #[p.val a c] w fun e w' => e = .returned (.bool (innerH p)) ∧ Below w.heap.size w w' := by
  obtain ⟨num, lsn, kind, hd, L⟩ := p
  unfold innerH
  simp only [SheetV.val]
  by_cases hk : kind = 4
  · subst hk
    go_enter Tryz.func130, Tryz.ntmps130
    go_wp2
    go_ret
    refine ⟨nret_bool ?_, (Below.refl _ _).alloc (Nat.le_refl _) _⟩
    by_cases h4 : hd.size = 1
    · simp [h4]
    · simp [h4]; try omega
  · have hk' : (kind == 4) = false := by rw [beq_eq_false_iff_ne]; exact hk
    go_enter Tryz.func130, Tryz.ntmps130
    go_wp2
    go_ret
    exact ⟨nret_bool (by simp [hk]), (Below.refl _ _).alloc (Nat.le_refl _) _⟩

set_option maxHeartbeats 1600000 in
set_option maxRecDepth 60000 in
theorem inner_any (p : SheetV) (a : Option Addr) (c : Nat) (w : World) (hp : p.Ok w a) (hl : p.slots.length ≤ 7036874417766) :
    Calls Tryz.prog 96 #[p.val a c] w fun x w' => Below w.heap.size w w' ∧
      (innerB p = true → ∃ a' c', x = .returned (.tuple #[.slice a' p.slots.length c', .int .i64 0]) ∧ RowsFrom w.heap.size 4 ChildV.enc w' a' (p.slots.map childOf)) ∧
      (innerB p = false → x = .returned (.tuple #[.slice none 0 0, .int .i64 120])) := by
  have HI : Hid (∀ wx, Calls Tryz.prog 130 #[p.val a c] wx fun e w' => e = .returned (.bool (innerH p)) ∧ Below wx.heap.size wx w') := fun wx => isInner_any p a c wx
  have HM := hidn hp.mem
  have HS := hidn hp.slots
  have HB : Hid (innerB p = (innerH p && p.slots.all childB)) := rfl
  generalize innerB p = B at *
  generalize innerH p = H at *
  clear hp
  obtain ⟨num, lsn, kind, hd, L⟩ := p
  simp only [SheetV.val] at *
  obtain ⟨W, HW⟩ : ∃ W, Hid (W = w.alloc (.cells #[.int .u32 num, .int .u64 lsn, .int .i64 kind, .string hd, .slice a L.length c] 63)) := ⟨_, rfl⟩
  have rW : RowV W w.heap.size 5 (five (.int .u32 num) (.int .u64 lsn) (.int .i64 kind) (.string hd) (.slice a L.length c)) := by rw [HW.out]; exact RowV.five_new _ _ _ _ _ _ _
  have bW : Below w.heap.size w W := by rw [HW.out]; exact (Below.refl _ _).alloc (Nat.le_refl _) _
  have zW : w.heap.size < W.heap.size := by rw [HW.out]; simp
  go_enter Tryz.func96, Tryz.ntmps96
  go_wp2_with fail
  rw [← HW.out]
  clear HW
  refine (HI.out _).mono ?_
  rintro x w1 ⟨rfl, b1⟩
  have r1 := rW.below b1 zW
  have bb := hidn (below_chain bW b1)
  have z1 := Nat.lt_of_lt_of_le zW b1.size
  clear rW bW b1
  obtain ⟨x0, x1, x2, x3, x4⟩ := r1.cells5
  cases H with
  | false =>
    go_wp2
    go_ret2
    refine ⟨bb.out, fun h => ?_, fun _ => rfl⟩
    rw [HB.out] at h; simp at h
  | true =>
    go_wp2_with fail
    refine (takeAllC_any a c L w1 (HM.out.below bb.out) hl (fun s hs => Nat.le_trans (HS.out s hs) (by omega))).mono ?_
    rintro x w2 ⟨b2, hyes, hno⟩
    have b3 := below_chain bb.out b2
    simp only [Bool.true_and] at HB
    cases hA : L.all childB with
    | true =>
      obtain ⟨a', c', rfl, hr⟩ := hyes hA
      go_wp2
      go_ret2
      refine ⟨b3, fun _ => ⟨a', c', rfl, ?_⟩, fun h => ?_⟩
      · rcases hr with hr | ⟨b, o, e, hb1, hb2, hc⟩
        · exact .inl hr
        · exact .inr ⟨b, o, e, Nat.le_trans bb.out.size hb1, hb2, hc⟩
      · rw [HB.out, hA] at h; exact absurd h (by simp)
    | false =>
      obtain rfl := hno hA
      go_wp2
      go_ret2
      refine ⟨b3, fun h => ?_, fun _ => rfl⟩
      rw [HB.out, hA] at h; exact absurd h (by simp)

def levelF (p : SheetV) : Nat := if innerH p = true then le (part p.head 0 1) else 0

set_option maxHeartbeats 1600000 in
set_option maxRecDepth 60000 in
theorem level_any (p : SheetV) (a : Option Addr) (c : Nat) (w : World) :
    Calls Tryz.prog 97 #[p.val a c] w fun e w' => e = .returned (.int .i64 (levelF p)) ∧ Below w.heap.size w w' := by
  have HI : Hid (∀ wx, Calls Tryz.prog 130 #[p.val a c] wx fun e w' => e = .returned (.bool (innerH p)) ∧ Below wx.heap.size wx w') := fun wx => isInner_any p a c wx
  have HB : Hid (levelF p = if innerH p = true then le (part p.head 0 1) else 0) := rfl
  have HL : Hid (innerH p = true → p.head.size = 1) := fun h => by unfold innerH at h; simp at h; exact h.2
  generalize levelF p = R at *
  generalize innerH p = H at *
  obtain ⟨num, lsn, kind, hd, L⟩ := p
  simp only [SheetV.val] at *
  obtain ⟨W, HW⟩ : ∃ W, Hid (W = w.alloc (.cells #[.int .u32 num, .int .u64 lsn, .int .i64 kind, .string hd, .slice a L.length c] 63)) := ⟨_, rfl⟩
  have rW : RowV W w.heap.size 5 (five (.int .u32 num) (.int .u64 lsn) (.int .i64 kind) (.string hd) (.slice a L.length c)) := by rw [HW.out]; exact RowV.five_new _ _ _ _ _ _ _
  have bW : Below w.heap.size w W := by rw [HW.out]; exact (Below.refl _ _).alloc (Nat.le_refl _) _
  have zW : w.heap.size < W.heap.size := by rw [HW.out]; simp
  go_enter Tryz.func97, Tryz.ntmps97
  go_wp2_with fail
  rw [← HW.out]
  clear HW
  refine (HI.out _).mono ?_
  rintro x w1 ⟨rfl, b1⟩
  have r1 := rW.below b1 zW
  have bb := hidn (below_chain bW b1)
  have z1 := Nat.lt_of_lt_of_le zW b1.size
  clear rW bW b1
  obtain ⟨x0, x1, x2, x3, x4⟩ := r1.cells5
  cases H with
  | false =>
    go_wp2
    go_ret
    refine ⟨nret_int ?_, bb.out⟩
    rw [HB.out]; simp
  | true =>
    have hsz := HL.out rfl
    go_wp2_with fail
    refine (new_reader hd w1).mono ?_
    rintro x w2 ⟨rfl, rfl⟩
    have h1 := reader_new (t := 231) (w := w1) (s := hd) (by omega) (Below.refl _ _)
    have bV := hidn (bb.out.alloc (Nat.le_of_lt z1) (.cells #[.string hd, .int .i64 0, .int .i64 0] 231))
    obtain ⟨V, HV⟩ : ∃ V, Hid (V = w1.alloc (.cells #[.string hd, .int .i64 0, .int .i64 0] 231)) := ⟨_, rfl⟩
    rw [← HV.out] at h1 bV ⊢
    clear HV
    have HN := hidn (number_any h1 1)
    rw [show numF hd 0 0 1 = (0 + 1, 0, le (part hd 0 1)) from numF_ok 1 (by omega) (by omega)] at HN
    have hlt : le (part hd 0 1) < 256 := le_lt_of (l := part hd 0 1) (n := 1) (by rw [part_length (by omega)]; omega)
    obtain ⟨Q, HQ⟩ : ∃ Q, Hid (le (part hd 0 1) = Q) := ⟨_, rfl⟩
    rw [HQ.out] at hlt HN HB
    have q1 : IntKind.i64.wrap (Q : Int) = (Q : Int) := by rw [IntKind.wrap_i64]; omega
    go_wp2_with fail
    refine HN.out.mono ?_
    rintro x w3 ⟨rfl, h3, o3⟩
    have b3 := hidn (o3.below bV.out (by omega) (Nat.le_refl _))
    clear HN
    go_wp2
    go_ret
    refine ⟨nret_int ?_, b3.out⟩
    rw [HB.out]; simp

end Go.Proofs.YtpllidadpcahbaaGreat
