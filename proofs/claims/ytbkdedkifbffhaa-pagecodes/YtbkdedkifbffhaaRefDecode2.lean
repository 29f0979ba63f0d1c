/-
  The walk of girderref03.Decode behind the sum's test.
-/
import Derived.Test.YtbkdedkifbffhaaRefDecode
import Derived.Test.YtbkdedkifbffhaaRefMath
import Derived.Maps.AppendAt
namespace Go.Proofs.Ytbkdedkifbffhaa
open Go.RowKit Go.Sort
set_option linter.unusedVariables false

/-- Where Decode stands: its result, the reader in block br, the page behind it. -/
structure RDAt (w : World) (br : Nat) (wx : World) (s : ByteArray) (p : Nat) (e : Int) (v0 v1 v2 v3 v4 : Value) : Prop where
  res : RowV wx w.heap.size 5 (five (.int .u32 0) (.int .u64 0) (.int .i64 0) (.string ⟨#[]⟩) (.slice none 0 0))
  rd : Row3 wx br (.string s) (.int .i64 p) (.int .i64 e)
  pg : RowV wx (br + 1) 5 (five v0 v1 v2 v3 v4)
  bel : Below w.heap.size w wx
  lt : br + 2 ≤ wx.heap.size
  lo : w.heap.size < br
  le : p ≤ s.size

section
variable {w : World} {br : Nat} {wx : World} {s : ByteArray} {p : Nat} {e : Int} {v0 v1 v2 v3 v4 : Value}

theorem RDAt.below (h : RDAt w br wx s p e v0 v1 v2 v3 v4) {wy : World} (k : Below wx.heap.size wx wy) : RDAt w br wy s p e v0 v1 v2 v3 v4 :=
  ⟨h.res.below k (by have := h.lt; have := h.lo; omega), h.rd.below k (by have := h.lt; omega), h.pg.below k (by have := h.lt; omega), below_chain h.bel k, Nat.le_trans h.lt k.size, h.lo, h.le⟩

theorem RDAt.belowB (h : RDAt w br wx s p e v0 v1 v2 v3 v4) {wy : World} (k : Below (br + 2) wx wy) : RDAt w br wy s p e v0 v1 v2 v3 v4 :=
  ⟨h.res.below k (by have := h.lo; omega), h.rd.below k (by omega), h.pg.below k (by omega), h.bel.trans (k.mono (by have := h.lo; omega)), Nat.le_trans h.lt k.size, h.lo, h.le⟩

/-- The reader is stored anew. -/
def storeR (wx : World) (br : Nat) (s : ByteArray) (p : Nat) (e : Int) : World := ((wx.setCell ⟨br, 0, none⟩ (.string s)).setCell ⟨br, 1, none⟩ (.int .i64 p)).setCell ⟨br, 2, none⟩ (.int .i64 e)

theorem RDAt.setR (h : RDAt w br wx s p e v0 v1 v2 v3 v4) (p' : Nat) (e' : Int) (hp : p' ≤ s.size) : RDAt w br (storeR wx br s p' e') s p' e' v0 v1 v2 v3 v4 :=
  ⟨((h.res.set_other (by have := h.lo; omega) _).set_other (by have := h.lo; omega) _).set_other (by have := h.lo; omega) _, h.rd.set _ _ _, ((h.pg.set_other (by omega) _).set_other (by omega) _).set_other (by omega) _,
    below_set3 h.bel (by have := h.lo; omega) _ _ _, by simpa [storeR] using h.lt, h.lo, hp⟩

theorem RDAt.setP (h : RDAt w br wx s p e v0 v1 v2 v3 v4) (i : Nat) (v : Value) {u0 u1 u2 u3 u4 : Value} (hr : RowV (wx.setCell ⟨br + 1, i, none⟩ v) (br + 1) 5 (five u0 u1 u2 u3 u4)) : RDAt w br (wx.setCell ⟨br + 1, i, none⟩ v) s p e u0 u1 u2 u3 u4 :=
  ⟨h.res.set_other (by have := h.lo; omega) _, h.rd.setFar (by omega) _ _, hr, h.bel.setCell (p := ⟨br + 1, i, none⟩) (by show w.heap.size ≤ br + 1; have := h.lo; omega) _, by simpa using h.lt, h.lo, h.le⟩
end

theorem numF2 {s : ByteArray} {p : Nat} {e : Int} (hp : p ≤ s.size) : (numF s p e 2).1 ≤ s.size ∧ (numF s p e 2).2.2 < 65536 := by
  unfold numF
  split
  · exact ⟨hp, by show (0 : Nat) < _; omega⟩
  split
  · exact ⟨hp, by show (0 : Nat) < _; omega⟩
  split
  · exact ⟨hp, by show (0 : Nat) < _; omega⟩
  · rename_i h3
    refine ⟨by show p + 2 ≤ s.size; simp at h3; omega, ?_⟩
    exact le_lt_of (l := part s p 2) (n := 2) (by rw [part_length (by simp at h3; omega)]; omega)

theorem bytesF2 {s : ByteArray} {p : Nat} {e : Int} (hp : p ≤ s.size) (n : Nat) : (bytesF s p e n).1 ≤ s.size ∧ (bytesF s p e n).2.2.length ≤ n := by
  unfold bytesF
  split
  · exact ⟨hp, by simp⟩
  split
  · exact ⟨hp, by simp⟩
  split
  · exact ⟨hp, by simp⟩
  · rename_i h3
    rw [Int.toNat_natCast] at h3 ⊢
    exact ⟨by show p + n ≤ s.size; omega, by show (part s p n).length ≤ n; rw [part_length (by omega)]; exact Nat.le_refl _⟩

theorem ownsRow_below {w w' : World} {base : Nat} {e : TypeId} {size n : Nat} {v : Value} {xs : List Value} (h : w.ownsRow base e size v n xs) (k : Below w.heap.size w w') : w'.ownsRow base e size v n xs :=
  h.kept (row := none) ⟨k.os, k.tape, k.output, k.size, fun i hi _ => k.block i hi⟩ (by cases h2 : v.ownBlock <;> simp)

theorem iInt : (Try.prog.info? 3).map (fun i => (i.zero, i.size, i.bytes)) = some (some (.int .i64 0), 1, 8) := infoInt
theorem iStr : (Try.prog.info? 9).map (fun i => (i.zero, i.size, i.bytes)) = some (some (.string ⟨#[]⟩), 1, 16) := infoStr

theorem xnumber_ok {s : ByteArray} (hsz : s.size = 512) (p n : Nat) (h : p + n ≤ 512) (hn : n ≤ 8) (w : World) :
    Calls Try.prog 44 #[.agg #[.string s, .int .i64 p, .int .i64 0], .int .i64 n] w fun x w' =>
      x = .returned (.tuple #[.agg #[.string s, .int .i64 ((p + n : Nat) : Int), .int .i64 0], .int .u64 (le (part s p n))]) ∧ Below w.heap.size w w' := by
  have := xnumber_any (s := s) (p := p) (e := 0) (w := w) (by omega) (by omega) (n : Int) (by omega)
  rw [numF_ok n hn (by omega)] at this
  exact this

theorem xtake_ok {s : ByteArray} (hsz : s.size = 512) (p n : Nat) (h : p + n ≤ 512) (w : World) :
    Calls Try.prog 45 #[.agg #[.string s, .int .i64 p, .int .i64 0], .int .i64 n] w fun x w' =>
      x = .returned (.tuple #[.agg #[.string s, .int .i64 ((p + n : Nat) : Int), .int .i64 0], .string ⟨(part s p n).toArray⟩]) ∧ Below w.heap.size w w' := by
  have := xtake_any (s := s) (p := p) (e := 0) (w := w) (by omega) (by omega) (n : Int) (by omega)
  rw [bytesF_ok n (by omega)] at this
  exact this

theorem refEncode_any (p : SheetV) (a : Option Addr) (c : Nat) (w : World) (h : p.Ok w a) :
    Calls Try.prog 10 #[p.val a c] w fun e w' => e = .returned (.tuple #[.string (encS p), .int .i64 (encE p)]) ∧ Below w.heap.size w w' := by
  by_cases h1 : p.kind < 0 ∨ 255 < p.kind ∨ 32 < p.head.size ∨ 64 < p.slots.length
  · have hE : encE p = 1 := by unfold encE; rw [if_pos h1]
    have hS : encS p = ⟨#[]⟩ := by unfold encS; rw [hE]; rfl
    rw [hE, hS]
    exact refEncode_arg p a c w h h1
  · by_cases h2 : 485 < p.head.size + slotSum p.slots
    · have hE : encE p = 30 := by unfold encE; rw [if_neg h1, if_pos h2]
      have hS : encS p = ⟨#[]⟩ := by unfold encS; rw [hE]; rfl
      rw [hE, hS]
      exact refEncode_full p a c w h (by omega) (by omega) (by omega) (by omega) h2
    · have hE : encE p = 0 := by unfold encE; rw [if_neg h1, if_neg h2]
      have hS : encS p = ⟨(encL p).toArray⟩ := by unfold encS; rw [if_pos hE]
      rw [hE, hS]
      exact refEncode_ok p a c w h (by omega) (by omega) (by omega) (by omega) (by omega)

set_option maxHeartbeats 2400000 in
set_option maxRecDepth 20000 in
theorem rdec_read (s : ByteArray) (w : World) (h : s.size = 512) (hz : zerosB s.data.toList = false) (ht : s.extract 4 12 = s.extract 504 512) (hs : le (s.extract 0 4).data.toList = crcSum 0 (s.extract 4 512).data.toList) :
    Calls Try.prog 13 #[.string s] w fun x w' => ∃ a c, x = .returned (.tuple #[(decP s).val a c, .int .i64 (decE s)]) ∧ StrsAt w' a (decP s).slots ∧ Below w.heap.size w w' := by
  have HD60 : decE s = 0 ∨ decE s = 6 := by
    have hq : s.extract 0 4 = ⟨(putL (crcSum 0 (s.extract 4 512).data.toList) 4).toArray⟩ := by
      rw [← hs, putL_le _ 4 (by rw [Lib.extract_data]; simp; omega), bytes_self]
    unfold decE
    rw [if_neg (by omega), if_neg (by omega), if_neg (by rw [hz]; simp), if_neg (by rw [ht]; simp), if_neg (by rw [hq]; simp)]
    split
    · exact .inl rfl
    · exact .inr rfl
  have hT := str_eq ht
  have hcs := crcSum_lt 0 (s.extract 4 512).data.toList
  have HMO : Hid (∀ wx, Calls Try.prog 40 #[.int .u32 0, .string (s.extract 4 512)] wx fun e w' => e = .returned (.int .u32 (crcSum 0 (s.extract 4 512).data.toList)) ∧ w' = wx) := fun wx => rmore_any 0 _ wx (by omega) (by simp [ByteArray.size_extract]; unfold maxLen; omega)
  have HNU : Hid (∀ wx, Calls Try.prog 43 #[.string (s.extract 0 4)] wx fun e w' => e = .returned (.int .u64 (le (s.extract 0 4).data.toList)) ∧ w' = wx) := fun wx => rnumber_any _ wx (by simp [ByteArray.size_extract]; omega)
  generalize crcSum 0 (s.extract 4 512).data.toList = C at *
  generalize le (s.extract 0 4).data.toList = D at *
  have hwc : IntKind.u64.wrap (C : Int) = (C : Int) := by rw [IntKind.wrap_u64]; omega
  have hcmp : ((D : Int) == (C : Int)) = true := by rw [beq_iff_eq]; omega
  obtain ⟨Z, HZ⟩ : ∃ Z : ByteArray, Hid (Z = ⟨(List.replicate 512 0).toArray⟩) := ⟨_, rfl⟩
  have HZZ : Hid (s = Z ↔ zerosB s.data.toList = true) := by
    show _ ↔ _
    have hl : s.data.toList.length = 512 := by simpa using h
    rw [zerosB_iff, hl, HZ.out]
    constructor
    · intro e
      rw [e]
    · intro e
      exact Go.WideShapes.bytes_inj e
  obtain ⟨M, HM⟩ : ∃ M, Hid (M = madeCells #[Value.int .u8 0] 512) := ⟨_, rfl⟩
  have hmk : ∀ wx : World, (Instr.makeSlice 67 (.int .i64 512) (.int .i64 512)).run Try.prog wx = .ok (.slice (some ⟨wx.heap.size, 0, none⟩) 512 512) (wx.alloc (.cells M 5)) := fun wx => by
    rw [HM.out]
    exact run_make_row' (P := Try.prog) 67 5 (.int .u8 0) 1 Try.underlying67 info5 rfl .i64 .i64 512 (by omega) (by omega) wx
  have hcv : (convert 67 9 (.slice (some ⟨w.heap.size + 1, 0, none⟩) 512 512)).run Try.prog ((w.alloc (.cells #[.int .u32 0, .int .u64 0, .int .i64 0, .string ⟨#[]⟩, .slice none 0 0] 35)).alloc (.cells M 5)) = .ok (.string Z) ((w.alloc (.cells #[.int .u32 0, .int .u64 0, .int .i64 0, .string ⟨#[]⟩, .slice none 0 0] 35)).alloc (.cells M 5)) := by
    rw [HZ.out, HM.out]
    have hro := RowU.made (w.alloc (.cells #[.int .u32 0, .int .u64 0, .int .i64 0, .string ⟨#[]⟩, .slice none 0 0] 35)) 512 5
    rw [show (w.alloc (.cells #[.int .u32 0, .int .u64 0, .int .i64 0, .string ⟨#[]⟩, .slice none 0 0] 35)).heap.size = w.heap.size + 1 from by simp] at hro
    exact hro.toString (List.replicate 512 0) List.length_replicate (fun j hj => by rw [List.getElem_replicate]; rfl) 67 9 5 Try.underlying67 Try.underlying5 Try.underlying9
  clear HZ HM
  have hzz := str_ne (fun e => absurd (HZZ.out.1 e) (by rw [hz]; simp))
  go_enter Try.func13, Try.ntmps13
  go_wp2_with fail
  obtain ⟨W, HW⟩ : ∃ W, Hid (W = (w.alloc (.cells #[.int .u32 0, .int .u64 0, .int .i64 0, .string ⟨#[]⟩, .slice none 0 0] 35)).alloc (.cells M 5)) := ⟨_, rfl⟩
  have hres : RowV W w.heap.size 5 (five (.int .u32 0) (.int .u64 0) (.int .i64 0) (.string ⟨#[]⟩) (.slice none 0 0)) := by rw [HW.out]; exact (RowV.five_new w _ _ _ _ _ _).below ((Below.refl _ _).alloc (Nat.le_refl _) _) (by simp)
  have bel : Below w.heap.size w W := by rw [HW.out]; exact ((Below.refl _ _).alloc (Nat.le_refl _) _).alloc (by simp) _
  have hzW : w.heap.size < W.heap.size := by rw [HW.out]; simp; omega
  rw [← HW.out]
  clear HW hcv hmk hzz HZZ
  go_quiet (fail)
  have hresq : RowV (W.drewN nq) w.heap.size 5 (five (.int .u32 0) (.int .u64 0) (.int .i64 0) (.string ⟨#[]⟩) (.slice none 0 0)) := hres.below (below_drewN (Below.refl W.heap.size W) nq) hzW
  have belq := below_drewN bel nq
  obtain ⟨w2, HW2⟩ : ∃ w2, Hid (w2 = W.drewN nq) := ⟨_, rfl⟩
  rw [← HW2.out] at hresq belq ⊢
  have hz2 : w.heap.size < w2.heap.size := by rw [HW2.out]; exact hzW
  clear HW2 hres bel hzW
  go_wp2_with fail
  go_quiet (first | (go_at_call 40; exact Calls.quiet_of_same (HMO.out _)) | (go_at_call 43; exact Calls.quiet_of_same (HNU.out _)))
  have hres3 : RowV (w2.drewN nq) w.heap.size 5 (five (.int .u32 0) (.int .u64 0) (.int .i64 0) (.string ⟨#[]⟩) (.slice none 0 0)) := hresq.below (below_drewN (Below.refl w2.heap.size w2) nq) hz2
  have bel3 := below_drewN belq nq
  obtain ⟨w3, HW3⟩ : ∃ w3, Hid (w3 = w2.drewN nq) := ⟨_, rfl⟩
  rw [← HW3.out] at hres3 bel3 ⊢
  have hz3 : w.heap.size < w3.heap.size := by rw [HW3.out]; exact hz2
  clear HW3 hresq belq hz2
  clear hs hcmp HMO HNU hwc hT ht
  have HD6 : Hid (decE s = 0 ∨ decE s = 6) := HD60
  have HRF : Hid (decE s = 0 → ReadFacts s (decP s)) := fun h0 => read_facts h0 hz
  have L8 := le_lt_of (l := part s 4 8) (n := 8) (by rw [part_length (by omega)]; omega)
  have L4 := le_lt_of (l := part s 12 4) (n := 4) (by rw [part_length (by omega)]; omega)
  have L1 := le_lt_of (l := part s 16 1) (n := 1) (by rw [part_length (by omega)]; omega)
  have LH := le_lt_of (l := part s 17 1) (n := 1) (by rw [part_length (by omega)]; omega)
  have N1 : Hid (∀ wx, Calls Try.prog 44 #[.agg #[.string s, .int .i64 4, .int .i64 0], .int .i64 8] wx fun x w' => x = .returned (.tuple #[.agg #[.string s, .int .i64 12, .int .i64 0], .int .u64 (le (part s 4 8))]) ∧ Below wx.heap.size wx w') := fun wx => xnumber_ok h 4 8 (by omega) (by omega) wx
  have N2 : Hid (∀ wx, Calls Try.prog 44 #[.agg #[.string s, .int .i64 12, .int .i64 0], .int .i64 4] wx fun x w' => x = .returned (.tuple #[.agg #[.string s, .int .i64 16, .int .i64 0], .int .u64 (le (part s 12 4))]) ∧ Below wx.heap.size wx w') := fun wx => xnumber_ok h 12 4 (by omega) (by omega) wx
  have N3 : Hid (∀ wx, Calls Try.prog 44 #[.agg #[.string s, .int .i64 16, .int .i64 0], .int .i64 1] wx fun x w' => x = .returned (.tuple #[.agg #[.string s, .int .i64 17, .int .i64 0], .int .u64 (le (part s 16 1))]) ∧ Below wx.heap.size wx w') := fun wx => xnumber_ok h 16 1 (by omega) (by omega) wx
  have N4 : Hid (∀ wx, Calls Try.prog 44 #[.agg #[.string s, .int .i64 17, .int .i64 0], .int .i64 1] wx fun x w' => x = .returned (.tuple #[.agg #[.string s, .int .i64 18, .int .i64 0], .int .u64 (le (part s 17 1))]) ∧ Below wx.heap.size wx w') := fun wx => xnumber_ok h 17 1 (by omega) (by omega) wx
  have N5 : Hid (∀ wx, Calls Try.prog 45 #[.agg #[.string s, .int .i64 18, .int .i64 0], .int .i64 (le (part s 17 1))] wx fun x w' => x = .returned (.tuple #[.agg #[.string s, .int .i64 (18 + (le (part s 17 1) : Int)), .int .i64 0], .string ⟨(part s 18 (le (part s 17 1))).toArray⟩]) ∧ Below wx.heap.size wx w') := fun wx => xtake_ok h 18 _ (by omega) wx
  have N6 : Hid (∀ wx, Calls Try.prog 44 #[.agg #[.string s, .int .i64 (18 + (le (part s 17 1) : Int)), .int .i64 0], .int .i64 1] wx fun x w' => x = .returned (.tuple #[.agg #[.string s, .int .i64 (19 + (le (part s 17 1) : Int)), .int .i64 0], .int .u64 (le (part s (18 + le (part s 17 1)) 1))]) ∧ Below wx.heap.size wx w') := fun wx => by
    have := xnumber_ok h (18 + le (part s 17 1)) 1 (by omega) (by omega) wx
    rw [show 18 + le (part s 17 1) + 1 = 19 + le (part s 17 1) from by omega, Int.natCast_add, Int.natCast_add] at this
    exact this
  have LN := le_lt_of (l := part s (18 + le (part s 17 1)) 1) (n := 1) (by rw [part_length (by omega)]; omega)
  have hHs : (ByteArray.mk (part s 18 (le (part s 17 1))).toArray).size = le (part s 17 1) := by rw [bytes_size, part_length (by omega)]
  obtain ⟨lsn, Hlsn⟩ : ∃ x, Hid (le (part s 4 8) = x) := ⟨_, rfl⟩
  obtain ⟨num, Hnum⟩ : ∃ x, Hid (le (part s 12 4) = x) := ⟨_, rfl⟩
  obtain ⟨kn, Hkn⟩ : ∃ x, Hid (le (part s 16 1) = x) := ⟨_, rfl⟩
  obtain ⟨hn, Hhn⟩ : ∃ x, Hid (le (part s 17 1) = x) := ⟨_, rfl⟩
  rw [Hlsn.out] at N1 L8
  rw [Hnum.out] at N2 L4
  rw [Hkn.out] at N3 L1
  rw [Hhn.out] at N4 N5 N6 LH LN hHs
  obtain ⟨head, Hhead⟩ : ∃ x, Hid ((⟨(part s 18 hn).toArray⟩ : ByteArray) = x) := ⟨_, rfl⟩
  rw [Hhead.out] at N5 hHs
  obtain ⟨n, Hn⟩ : ∃ x, Hid (le (part s (18 + hn) 1) = x) := ⟨_, rfl⟩
  rw [Hn.out] at N6 LN
  go_wp2_with fail
  obtain ⟨br, Hbr⟩ : ∃ br, br = w3.heap.size := ⟨_, rfl⟩
  obtain ⟨W1, HW1⟩ : ∃ W1, Hid (W1 = (w3.alloc (.cells #[.string s, .int .i64 4, .int .i64 0] 82)).alloc (.cells #[.int .u32 0, .int .u64 0, .int .i64 0, .string ⟨#[]⟩, .slice none 0 0] 35)) := ⟨_, rfl⟩
  have h1 : RDAt w br W1 s 4 0 (.int .u32 0) (.int .u64 0) (.int .i64 0) (.string ⟨#[]⟩) (.slice none 0 0) := by
    rw [HW1.out, Hbr]
    refine ⟨(hres3.below ((Below.refl _ _).alloc (Nat.le_refl _) _) hz3).below ((Below.refl _ _).alloc (Nat.le_refl _) _) (by simp; omega), (Row3.new w3 _ _ _ _).below ((Below.refl _ _).alloc (Nat.le_refl _) _) (by simp), ?_, (bel3.alloc bel3.size _).alloc (by simp; have := bel3.size; omega) _, by simp, hz3, by omega⟩
    have := RowV.five_new (w3.alloc (.cells #[.string s, .int .i64 4, .int .i64 0] 82)) (.int .u32 0) (.int .u64 0) (.int .i64 0) (.string ⟨#[]⟩) (.slice none 0 0) 35
    simpa using this
  rw [← HW1.out]
  rw [← Hbr]
  clear HW1 hres3 bel3 hz3 Hbr
  refine (N1.out W1).mono ?_
  rintro x u1 ⟨rfl, b1⟩
  have g1 := h1.below b1
  clear h1 b1
  obtain ⟨⟨a0, a1, a2, m0, m1, m2⟩, ⟨d0, d1, d2, d3, d4⟩, ⟨f0, f1, f2, f3, f4⟩⟩ : Row3 u1 br _ _ _ ∧ _ ∧ _ := ⟨g1.rd, g1.pg.cells5, g1.pg.open5⟩
  go_wp2_with fail
  obtain ⟨W2, HW2⟩ : ∃ W, Hid (W = (storeR u1 br s 12 0).setCell ⟨br + 1, 1, none⟩ (.int .u64 lsn)) := ⟨_, rfl⟩
  have h2 := (g1.setR 12 0 (by omega)).setP 1 (.int .u64 lsn) ((g1.setR 12 0 (by omega)).pg.set1 (.int .u64 lsn))
  rw [← HW2.out] at h2
  rw [show ((((u1.setCell ⟨br, 0, none⟩ (.string s)).setCell ⟨br, 1, none⟩ (.int .i64 (12))).setCell ⟨br, 2, none⟩ (.int .i64 0)).setCell ⟨br + 1, 1, none⟩ (.int .u64 lsn)) = W2 from HW2.out.symm]
  clear HW2 g1 a0 a1 a2 m0 m1 m2 d0 d1 d2 d3 d4 f0 f1 f2 f3 f4
  refine (N2.out W2).mono ?_
  rintro x u2 ⟨rfl, b2⟩
  have g2 := h2.below b2
  clear h2 b2
  obtain ⟨⟨a0, a1, a2, m0, m1, m2⟩, ⟨d0, d1, d2, d3, d4⟩, ⟨f0, f1, f2, f3, f4⟩⟩ : Row3 u2 br _ _ _ ∧ _ ∧ _ := ⟨g2.rd, g2.pg.cells5, g2.pg.open5⟩
  go_wp2_with fail
  obtain ⟨W3, HW3⟩ : ∃ W, Hid (W = (storeR u2 br s 16 0).setCell ⟨br + 1, 0, none⟩ (.int .u32 num)) := ⟨_, rfl⟩
  have h3 := (g2.setR 16 0 (by omega)).setP 0 (.int .u32 num) ((g2.setR 16 0 (by omega)).pg.set0 (.int .u32 num))
  rw [← HW3.out] at h3
  rw [show ((((u2.setCell ⟨br, 0, none⟩ (.string s)).setCell ⟨br, 1, none⟩ (.int .i64 (16))).setCell ⟨br, 2, none⟩ (.int .i64 0)).setCell ⟨br + 1, 0, none⟩ (.int .u32 num)) = W3 from HW3.out.symm]
  clear HW3 g2 a0 a1 a2 m0 m1 m2 d0 d1 d2 d3 d4 f0 f1 f2 f3 f4
  refine (N3.out W3).mono ?_
  rintro x u3 ⟨rfl, b3⟩
  have g3 := h3.below b3
  clear h3 b3
  obtain ⟨⟨a0, a1, a2, m0, m1, m2⟩, ⟨d0, d1, d2, d3, d4⟩, ⟨f0, f1, f2, f3, f4⟩⟩ : Row3 u3 br _ _ _ ∧ _ ∧ _ := ⟨g3.rd, g3.pg.cells5, g3.pg.open5⟩
  go_wp2_with fail
  obtain ⟨W4, HW4⟩ : ∃ W, Hid (W = (storeR u3 br s 17 0).setCell ⟨br + 1, 2, none⟩ (.int .i64 kn)) := ⟨_, rfl⟩
  have h4 := (g3.setR 17 0 (by omega)).setP 2 (.int .i64 kn) ((g3.setR 17 0 (by omega)).pg.set2 (.int .i64 kn))
  rw [← HW4.out] at h4
  rw [show ((((u3.setCell ⟨br, 0, none⟩ (.string s)).setCell ⟨br, 1, none⟩ (.int .i64 (17))).setCell ⟨br, 2, none⟩ (.int .i64 0)).setCell ⟨br + 1, 2, none⟩ (.int .i64 kn)) = W4 from HW4.out.symm]
  clear HW4 g3 a0 a1 a2 m0 m1 m2 d0 d1 d2 d3 d4 f0 f1 f2 f3 f4
  refine (N4.out W4).mono ?_
  rintro x u4 ⟨rfl, b4⟩
  have g4 := h4.below b4
  clear h4 b4
  obtain ⟨⟨a0, a1, a2, m0, m1, m2⟩, ⟨d0, d1, d2, d3, d4⟩, ⟨f0, f1, f2, f3, f4⟩⟩ : Row3 u4 br _ _ _ ∧ _ ∧ _ := ⟨g4.rd, g4.pg.cells5, g4.pg.open5⟩
  go_wp2_with fail
  obtain ⟨W5, HW5⟩ : ∃ W, Hid (W = storeR u4 br s 18 0) := ⟨_, rfl⟩
  have h5 := g4.setR 18 0 (by omega)
  rw [← HW5.out] at h5
  rw [show (((u4.setCell ⟨br, 0, none⟩ (.string s)).setCell ⟨br, 1, none⟩ (.int .i64 (18))).setCell ⟨br, 2, none⟩ (.int .i64 0)) = W5 from HW5.out.symm]
  clear HW5 g4 a0 a1 a2 m0 m1 m2 d0 d1 d2 d3 d4 f0 f1 f2 f3 f4
  refine (N5.out W5).mono ?_
  rintro x u5 ⟨rfl, b5⟩
  have g5 := h5.below b5
  clear h5 b5
  obtain ⟨⟨a0, a1, a2, m0, m1, m2⟩, ⟨d0, d1, d2, d3, d4⟩, ⟨f0, f1, f2, f3, f4⟩⟩ : Row3 u5 br _ _ _ ∧ _ ∧ _ := ⟨g5.rd, g5.pg.cells5, g5.pg.open5⟩
  go_wp2_with fail
  obtain ⟨W6, HW6⟩ : ∃ W, Hid (W = (storeR u5 br s (18 + hn) 0).setCell ⟨br + 1, 3, none⟩ (.string head)) := ⟨_, rfl⟩
  have h6 := (g5.setR (18 + hn) 0 (by omega)).setP 3 (.string head) ((g5.setR (18 + hn) 0 (by omega)).pg.set3 (.string head))
  rw [← HW6.out] at h6
  rw [show ((((u5.setCell ⟨br, 0, none⟩ (.string s)).setCell ⟨br, 1, none⟩ (.int .i64 (18 + (hn : Int)))).setCell ⟨br, 2, none⟩ (.int .i64 0)).setCell ⟨br + 1, 3, none⟩ (.string head)) = W6 from HW6.out.symm]
  clear HW6 g5 a0 a1 a2 m0 m1 m2 d0 d1 d2 d3 d4 f0 f1 f2 f3 f4
  refine (N6.out W6).mono ?_
  rintro x u6 ⟨rfl, b6⟩
  have g6 := h6.below b6
  clear h6 b6
  obtain ⟨⟨a0, a1, a2, m0, m1, m2⟩, ⟨d0, d1, d2, d3, d4⟩, ⟨f0, f1, f2, f3, f4⟩⟩ : Row3 u6 br _ _ _ ∧ _ ∧ _ := ⟨g6.rd, g6.pg.cells5, g6.pg.open5⟩
  go_wp2_with fail
  have h7 := (g6.setR (19 + hn) 0 (by omega)).below ((Below.refl _ _).alloc (Nat.le_refl _) (.cells #[] 3))
  have ho7 : ((storeR u6 br s (19 + hn) 0).alloc (.cells #[] 3)).ownsRow (br + 2) 3 1 (.slice (some ⟨(storeR u6 br s (19 + hn) 0).heap.size, 0, none⟩) 0 0) 0 [] := World.ownsRow_made _ #[] 0 (by have := g6.lt; simpa [storeR] using this) (by unfold maxLen; omega) rfl
  have hsz7 : (storeR u6 br s (19 + hn) 0).heap.size = u6.heap.size := by simp [storeR]
  rw [hsz7] at ho7
  obtain ⟨W7, HW7⟩ : ∃ W, Hid (W = (storeR u6 br s (19 + hn) 0).alloc (.cells #[] 3)) := ⟨_, rfl⟩
  rw [← HW7.out] at h7 ho7
  rw [show (((u6.setCell ⟨br, 0, none⟩ (.string s)).setCell ⟨br, 1, none⟩ (.int .i64 (19 + (hn : Int)))).setCell ⟨br, 2, none⟩ (.int .i64 0)).alloc (.cells #[] 3) = W7 from HW7.out.symm]
  clear HW7 g6 hsz7 a0 a1 a2 m0 m1 m2 d0 d1 d2 d3 d4 f0 f1 f2 f3 f4 N1 N2 N3 N4 N5 N6
  go_loopw [7, 8] (fun v i wr => ∃ (k p : Nat) (e : Int) (lo : List Nat), k ≤ n ∧ i = .int .u64 k ∧ RDAt w br wr s p e (.int .u32 num) (.int .u64 lsn) (.int .i64 kn) (.string head) (.slice none 0 0) ∧ wr.ownsRow (br + 2) 3 1 v k (lo.map fun (x : Nat) => Value.int .i64 (x : Int)) ∧ Hid ((∀ x ∈ lo, x < 65536) ∧ (decE s = 0 → p = 19 + hn + 2 * k ∧ e = 0 ∧ lo = ((decP s).slots.take k).map ByteArray.size))) (fun _ i _ => n - (intOf i).toNat)
  case atStart => exact ⟨0, 19 + hn, 0, [], Nat.zero_le _, rfl, h7, ho7, fun x hx => (nomatch hx), fun _ => ⟨rfl, rfl, rfl⟩⟩
  case round =>
    clear h7 ho7
    obtain ⟨k, p, e, lo, hk, rfl, hst, hown, HF⟩ := hrel
    by_cases hlt : k < n
    · obtain ⟨i0, hi, hz0, hz1, hz2⟩ := info_parts iInt
      have hf2 := numF2 (e := e) hst.le
      have HN : Hid (∀ wx, Calls Try.prog 44 #[.agg #[.string s, .int .i64 p, .int .i64 e], .int .i64 2] wx fun x w' => x = .returned (.tuple #[.agg #[.string s, .int .i64 (numF s p e 2).1, .int .i64 (numF s p e 2).2.1], .int .u64 (numF s p e 2).2.2]) ∧ Below wx.heap.size wx w') := fun wx => xnumber_any (by omega) hst.le 2 (by omega)
      have HOKN : Hid (decE s = 0 → (numF s p e 2).1 = 19 + hn + 2 * (k + 1) ∧ (numF s p e 2).2.1 = 0 ∧ lo ++ [(numF s p e 2).2.2] = ((decP s).slots.take (k + 1)).map ByteArray.size) := fun h0 => by
        obtain ⟨rfl, rfl, q3⟩ := HF.out.2 h0
        have R := HRF.out h0
        have e1 : hn = (decP s).head.size := by rw [← R.hn]; exact Hhn.out.symm
        have e2 : n = (decP s).slots.length := by rw [← R.n, ← e1]; exact Hn.out.symm
        have hf := R.fits.fits
        have hsl := slotSum_len (decP s).slots
        have := numF_ok (s := s) (p := 19 + hn + 2 * k) 2 (by omega) (by omega)
        rw [show ((2 : Nat) : Int) = 2 from rfl] at this
        rw [this]
        refine ⟨by show 19 + hn + 2 * k + 2 = _; omega, rfl, ?_⟩
        rw [q3, List.take_succ_eq_append_getElem (by omega), List.map_append]
        congr 1
        show [le (part s (19 + hn + 2 * k) 2)] = [((decP s).slots[k]).size]
        rw [← R.long k (by omega), e1]
      generalize (numF s p e 2).1 = p' at *
      generalize (numF s p e 2).2.1 = e' at *
      generalize (numF s p e 2).2.2 = X at *
      obtain ⟨a0, a1, a2, m0, m1, m2⟩ := hst.rd
      have hbz : br < wr.heap.size := by have := hst.lt; omega
      go_wp2_with fail
      refine (HN.out _).mono ?_
      rintro x u1 ⟨rfl, b1⟩
      have g1 := hst.below b1
      have hbz1 : br < u1.heap.size := Nat.lt_of_lt_of_le hbz b1.size
      have hown1 := ownsRow_below hown b1
      clear hst hown b1 a0 a1 a2 m0 m1 m2
      obtain ⟨a0, a1, a2, m0, m1, m2⟩ := g1.rd
      have hzr : (storeR u1 br s p' e').heap.size = u1.heap.size := by simp [storeR]
      have g2 := ((g1.setR p' e' hf2.1).below ((Below.refl _ _).alloc (Nat.le_refl _) (.cells #[.string s, .int .i64 p', .int .i64 e'] 82))).below ((Below.refl _ _).alloc (Nat.le_refl _) (.cells #[.int .i64 X] 3))
      have ho2 := ((ownsRow_setCell_below (ownsRow_setCell_below (ownsRow_setCell_below hown1 (a := ⟨br, 0, none⟩) (by show br < br + 2; omega) (.string s)) (a := ⟨br, 1, none⟩) (by show br < br + 2; omega) (.int .i64 p')) (a := ⟨br, 2, none⟩) (by show br < br + 2; omega) (.int .i64 e')).alloc (.cells #[.string s, .int .i64 p', .int .i64 e'] 82)).alloc (.cells #[.int .i64 X] 3)
      have hnews : ∀ j u, ([.int .i64 X] : List Value)[j]? = some u → (((storeR u1 br s p' e').alloc (.cells #[.string s, .int .i64 p', .int .i64 e'] 82)).alloc (.cells #[.int .i64 X] 3)).cell? ((⟨u1.heap.size + 1, 0, none⟩ : Addr).add j) = some u := fun j u hj => by
        match j, hj with
        | 0, hj =>
          simp at hj
          subst hj
          have := World.cell?_alloc_new (w := (storeR u1 br s p' e').alloc (.cells #[.string s, .int .i64 p', .int .i64 e'] 82)) #[.int .i64 X] 3 0
          rw [show ((storeR u1 br s p' e').alloc (.cells #[.string s, .int .i64 p', .int .i64 e'] 82)).heap.size = u1.heap.size + 1 from by simp [hzr]] at this
          simpa [Addr.add] using this
      have HG2 : Hid (RDAt w br (((storeR u1 br s p' e').alloc (.cells #[.string s, .int .i64 p', .int .i64 e'] 82)).alloc (.cells #[.int .i64 X] 3)) s p' e' (.int .u32 num) (.int .u64 lsn) (.int .i64 kn) (.string head) (.slice none 0 0)) := g2
      have HZ2 : Hid ((((storeR u1 br s p' e').alloc (.cells #[.string s, .int .i64 p', .int .i64 e'] 82)).alloc (.cells #[.int .i64 X] 3)).heap.size = u1.heap.size + 2) := by show _ = _; simp [hzr]
      unfold storeR at ho2 hnews HG2 HZ2
      have hlolen : (lo.map fun (x : Nat) => Value.int .i64 (x : Int)).length = k * 1 := hown1.1
      clear g2 hzr
      go_wp2_with (at_builtin; refine wpList_append_own _ rfl _ _ 87 rfl (br + 2) 3 i0 (.int .i64 0) 1 8 Try.underlying87 hi hz0 hz1 hz2 rfl (by decide) _ k (lo.map fun (x : Nat) => Value.int .i64 (x : Int)) rfl ho2 ⟨u1.heap.size + 1, 0, none⟩ 1 1 [.int .i64 X] rfl rfl hnews (by intro u hu; simp at hu; subst hu; rfl) (by unfold maxLen; omega) (by omega) (by rw [HZ2.out]; have := g1.lt; omega) ?_)
      intro v' w8 hown8 hgrow _
      have hb8 := (Below.refl (br + 2) _).grown hgrow (by rw [HZ2.out]; have := g1.lt; omega) (fun k hk => (ho2.lt k hk).1)
      have g3 := HG2.out.belowB hb8
      clear hgrow hb8 HG2 HZ2 ho2 hnews hown1 g1 a0 a1 a2 m0 m1 m2
      go_wp2
      go_roundw
      case rel =>
        refine ⟨k + 1, p', e', lo ++ [X], by omega, by go_num, g3, by rw [List.map_append]; exact hown8, fun x hx => ?_, HOKN.out⟩
        rcases List.mem_append.1 hx with hx | hx
        · exact HF.out.1 x hx
        · rw [List.mem_singleton.1 hx]; exact hf2.2
      case measure => simp [intOf]; omega
    · obtain rfl : k = n := by omega
      obtain ⟨wA, rfl⟩ : ∃ wA, wA = wr := ⟨_, rfl⟩
      have hlen : lo.length = k := by have := hown.1; simpa using this
      obtain ⟨al, cl, hu7, hal⟩ : ∃ al cl, u7 = .slice al k cl ∧ (k = 0 ∨ ∃ gl, al = some ⟨gl, 0, none⟩ ∧ br + 2 ≤ gl ∧ gl < wA.heap.size ∧ ∀ j (hj : j < lo.length), wA.cell? ⟨gl, j, none⟩ = some (.int .i64 (lo[j] : Nat))) := by
        rcases hown.2 with ⟨e1, e2⟩ | ⟨g, cap, cur, e1, e2, e3, _⟩
        · subst e2; exact ⟨none, 0, e1, .inl rfl⟩
        · refine ⟨some ⟨g, 0, none⟩, cap, e1, .inr ⟨g, rfl, e2, (hown.lt g (by rw [e1]; rfl)).2, fun j hj => ?_⟩⟩
          have := hown.cells (g := g) (by rw [e1]; rfl) j (.int .i64 (lo[j] : Nat)) (by simp [hj])
          rw [Addr.add_lit, Nat.zero_add] at this
          exact this
      subst hu7
      have HF1 := HF
      have hlow : Hid (w.heap.size + 1 ≤ wA.heap.size) := by show _ ≤ _; have := hst.lo; have := hst.lt; omega
      go_wp2_with fail
      go_loopw [11] (fun i wr => ∃ (m p : Nat) (e : Int) (sv : Value) (M : List ByteArray), m ≤ k ∧ i = .int .i64 m ∧ RDAt w br wr s p e (.int .u32 num) (.int .u64 lsn) (.int .i64 kn) (.string head) sv ∧ wr.ownsRow wA.heap.size 9 1 sv m (M.map Value.string) ∧ wA.heap.size ≤ wr.heap.size ∧ (k = 0 ∨ ∃ gl, al = some ⟨gl, 0, none⟩ ∧ br + 2 ≤ gl ∧ gl < wA.heap.size ∧ ∀ j (hj : j < lo.length), wr.cell? ⟨gl, j, none⟩ = some (.int .i64 (lo[j] : Nat))) ∧
        Hid ((∀ x ∈ M, x.size ≤ 65535) ∧ (decE s = 0 → p = 19 + hn + 2 * k + (slotBytes ((decP s).slots.take m)).length ∧ e = 0 ∧ M = (decP s).slots.take m))) (fun i _ => k - (intOf i).toNat)
      case atStart => exact ⟨0, p, e, .slice none 0 0, [], Nat.zero_le _, rfl, hst, World.ownsRow_nil _ _ _ _, Nat.le_refl _, hal, fun x hx => (nomatch hx), fun h0 => ⟨by rw [(HF.out.2 h0).1]; simp [slotBytes], (HF.out.2 h0).2.1, rfl⟩⟩
      case round =>
        clear hst hown hal
        obtain ⟨m, p, e, sv, M, hm, rfl, hst, hown, hszA, hal, HG⟩ := hrel
        by_cases hlt2 : m < k
        · obtain ⟨gl, rfl, hgl1, hgl2, hgc⟩ : ∃ gl, al = some ⟨gl, 0, none⟩ ∧ br + 2 ≤ gl ∧ gl < wA.heap.size ∧ ∀ j (hj : j < lo.length), wr.cell? ⟨gl, j, none⟩ = some (.int .i64 (lo[j] : Nat)) := by
            rcases hal with h0 | h0
            · omega
            · exact h0
          have hck := hgc m (by omega)
          have HGC : Hid (∀ j (hj : j < lo.length), wr.cell? ⟨gl, j, none⟩ = some (.int .i64 (lo[j] : Nat))) := hgc
          clear hgc
          obtain ⟨X, hX⟩ : ∃ X, lo[m] = X := ⟨_, rfl⟩
          have hXl : X < 65536 := HF1.out.1 X (by rw [← hX]; exact List.getElem_mem _)
          rw [hX] at hck
          have hf2 := bytesF2 (e := e) hst.le X
          have HT : Hid (∀ wx, Calls Try.prog 45 #[.agg #[.string s, .int .i64 p, .int .i64 e], .int .i64 X] wx fun x w' => x = .returned (.tuple #[.agg #[.string s, .int .i64 (bytesF s p e X).1, .int .i64 (bytesF s p e X).2.1], .string ⟨(bytesF s p e X).2.2.toArray⟩]) ∧ Below wx.heap.size wx w') := fun wx => xtake_any (by omega) hst.le X (by omega)
          have hYs : (ByteArray.mk (bytesF s p e X).2.2.toArray).size ≤ 65535 := by rw [bytes_size]; omega
          have HOKT : Hid (decE s = 0 → (bytesF s p e X).1 = 19 + hn + 2 * k + (slotBytes ((decP s).slots.take (m + 1))).length ∧ (bytesF s p e X).2.1 = 0 ∧ M ++ [⟨(bytesF s p e X).2.2.toArray⟩] = (decP s).slots.take (m + 1)) := fun h0 => by
            obtain ⟨rfl, rfl, q3⟩ := HG.out.2 h0
            obtain ⟨_, _, q4⟩ := HF1.out.2 h0
            have R := HRF.out h0
            have e1 : hn = (decP s).head.size := by rw [← R.hn]; exact Hhn.out.symm
            have e2 : k = (decP s).slots.length := by rw [← R.n, ← e1]; exact Hn.out.symm
            have hf := R.fits.fits
            have hmm : m < (decP s).slots.length := by omega
            have eX : X = (decP s).slots[m].size := by
              rw [← hX]
              simp [q4]
            have hsn := slotBytes_len_snoc (decP s).slots m hmm
            have e4 : (slotBytes ((decP s).slots.take (m + 1))).length ≤ (slotBytes (decP s).slots).length := by
              conv => rhs; rw [← List.take_append_drop (m + 1) (decP s).slots, slotBytes_append, List.length_append]
              omega
            have hlb := slot_lengths (decP s).slots
            have hll := slotLens_length (decP s).slots
            have := bytesF_ok (s := s) (p := 19 + hn + 2 * k + (slotBytes ((decP s).slots.take m)).length) X (by omega)
            rw [this]
            refine ⟨by show 19 + hn + 2 * k + (slotBytes ((decP s).slots.take m)).length + X = _; omega, rfl, ?_⟩
            rw [q3, List.take_succ_eq_append_getElem hmm]
            congr 1
            have := R.slot m hmm
            rw [← e1, ← e2, ← eX] at this
            rw [← this]
          generalize (bytesF s p e X).1 = p' at *
          generalize (bytesF s p e X).2.1 = e' at *
          generalize (⟨(bytesF s p e X).2.2.toArray⟩ : ByteArray) = Y at *
          clear hX
          obtain ⟨a0, a1, a2, m0, m1, m2⟩ := hst.rd
          have hi0 : (0 : Int) ≤ (m : Int) := by omega
          have hi1 : (m : Int) < (k : Int) := by omega
          have HS : Hid (∀ wy, Below wr.heap.size wr wy → wy.cell? ⟨br, 0, none⟩ = some (.string s) ∧ wy.cell? ⟨br, 1, none⟩ = some (.int .i64 p) ∧ wy.cell? ⟨br, 2, none⟩ = some (.int .i64 e) ∧ wy.cell? ⟨gl, m, none⟩ = some (.int .i64 X)) := fun wy hb => by
            have := hst.lt
            exact ⟨(hb.cell (p := ⟨br, 0, none⟩) (by show br < _; omega)).trans a0, (hb.cell (p := ⟨br, 1, none⟩) (by show br < _; omega)).trans a1, (hb.cell (p := ⟨br, 2, none⟩) (by show br < _; omega)).trans a2, (hb.cell (p := ⟨gl, m, none⟩) (by show gl < _; omega)).trans hck⟩
          have HK : Hid (∀ uy, Below (wr.alloc (.cells #[.string ⟨#[]⟩, .int .i64 0, .int .i64 0] 82)).drew.heap.size (wr.alloc (.cells #[.string ⟨#[]⟩, .int .i64 0, .int .i64 0] 82)).drew uy → uy.cell? ⟨wr.heap.size, 0, none⟩ = some (.string ⟨#[]⟩) ∧ uy.cell? ⟨wr.heap.size, 1, none⟩ = some (.int .i64 0) ∧ uy.cell? ⟨wr.heap.size, 2, none⟩ = some (.int .i64 0) ∧ uy.frozen? ⟨wr.heap.size, 0, none⟩ = false ∧ uy.frozen? ⟨wr.heap.size, 1, none⟩ = false ∧ uy.frozen? ⟨wr.heap.size, 2, none⟩ = false) := fun uy hb => by
            obtain ⟨o0, o1, o2, o3, o4, o5⟩ := (Row3.new wr (.string ⟨#[]⟩) (.int .i64 0) (.int .i64 0) 82).below (w1 := uy) (B := (wr.alloc (.cells #[.string ⟨#[]⟩, .int .i64 0, .int .i64 0] 82)).heap.size) ⟨hb.os, hb.tape, hb.output, hb.size, hb.block⟩ (by simp)
            exact ⟨o0, o1, o2, o3, o4, o5⟩
          have HT2 : Hid (Calls Try.prog 45 #[.agg #[.string s, .int .i64 p, .int .i64 e], .int .i64 X] (wr.alloc (.cells #[.string ⟨#[]⟩, .int .i64 0, .int .i64 0] 82)).drew fun x w' => x = .returned (.tuple #[.agg #[.string s, .int .i64 p', .int .i64 e'], .string Y]) ∧ Below (wr.alloc (.cells #[.string ⟨#[]⟩, .int .i64 0, .int .i64 0] 82)).drew.heap.size (wr.alloc (.cells #[.string ⟨#[]⟩, .int .i64 0, .int .i64 0] 82)).drew w' ∧ w'.cell? ⟨wr.heap.size, 0, none⟩ = some (.string ⟨#[]⟩) ∧ w'.cell? ⟨wr.heap.size, 1, none⟩ = some (.int .i64 0) ∧ w'.cell? ⟨wr.heap.size, 2, none⟩ = some (.int .i64 0) ∧ w'.frozen? ⟨wr.heap.size, 0, none⟩ = false ∧ w'.frozen? ⟨wr.heap.size, 1, none⟩ = false ∧ w'.frozen? ⟨wr.heap.size, 2, none⟩ = false) := (HT.out _).mono fun x w' hx => ⟨hx.1, hx.2, HK.out _ hx.2⟩
          go_wp2_with fail
          go_region_held3 (fun w' => w'.cell? ⟨br, 0, none⟩ = some (.string s) ∧ w'.cell? ⟨br, 1, none⟩ = some (.int .i64 p) ∧ w'.cell? ⟨br, 2, none⟩ = some (.int .i64 e) ∧ w'.cell? ⟨gl, m, none⟩ = some (.int .i64 X)) (first | go_keep | exact HS.out _ (below_set3 (below_chain (((Below.refl _ _).alloc (Nat.le_refl _) _).drew) b1) (Nat.le_refl _) _ _ _) | exact HS.out _ (below_chain ((Below.refl _ _).drew) b1) | exact HS.out _ ((below_chain ((Below.refl _ _).drew) b1).alloc b1.size _) | exact HS.out _ (below_chain (((Below.refl _ _).drew).alloc (Nat.le_refl _) _) b1) | exact HS.out _ (below_chain (((Below.refl _ _).alloc (Nat.le_refl _) _).drew) b1))
            (first | (go_at_call 45; refine HT2.out.mono ?_; rintro x u1 ⟨rfl, b1, k0, k1, k2, l0, l1, l2⟩) | (go_at_call 45; refine (HT.out _).mono ?_; rintro x u1 ⟨rfl, b1⟩))
          · obtain ⟨V, HVe⟩ : ∃ V, Hid (V = u1.alloc (.cells #[.string s, .int .i64 p', .int .i64 e'] 82)) := ⟨_, rfl⟩
            have hbV : Below wr.heap.size wr V := by rw [HVe.out]; exact (below_chain ((Below.refl _ _).drew) b1).alloc b1.size _
            have hn3 : Row3 V u1.heap.size (.string s) (.int .i64 p') (.int .i64 e') := by rw [HVe.out]; exact Row3.new u1 _ _ _ _
            have hnb : br + 2 ≤ u1.heap.size := by have := hst.lt; have q : wr.heap.size ≤ u1.heap.size := b1.size; omega
            rw [← HVe.out]
            clear HVe
            have g1 := hst.below hbV
            have hown1 := ownsRow_below hown hbV
            have HGV : Hid (∀ j (hj : j < lo.length), V.cell? ⟨gl, j, none⟩ = some (.int .i64 (lo[j] : Nat))) := fun j hj => (hbV.cell (p := ⟨gl, j, none⟩) (by show gl < _; omega)).trans (HGC.out j hj)
            have hzV := Nat.le_trans hszA hbV.size
            have hlt1 := g1.lt
            clear HGC hown hst a0 a1 a2 m0 m1 m2 hck HS HK HT HT2
            obtain ⟨a0, a1, a2, m0, m1, m2⟩ := g1.rd
            obtain ⟨c0, c1, c2, _, _, _⟩ := hn3
            obtain ⟨d0, d1, d2, d3, d4⟩ := g1.pg.cells5
            obtain ⟨i0, hi, hz0, hz1, hz2⟩ := info_parts iStr
            have hzr : (storeR V br s p' e').heap.size = V.heap.size := by simp [storeR]
            have g2 := (g1.setR p' e' hf2.1).below ((Below.refl _ _).alloc (Nat.le_refl _) (.cells #[.string Y] 9))
            have hbrA : br + 2 ≤ wA.heap.size := by omega
            have ho2 := (ownsRow_setCell_below (ownsRow_setCell_below (ownsRow_setCell_below hown1 (a := ⟨br, 0, none⟩) (by show br < _; omega) (.string s)) (a := ⟨br, 1, none⟩) (by show br < _; omega) (.int .i64 p')) (a := ⟨br, 2, none⟩) (by show br < _; omega) (.int .i64 e')).alloc (.cells #[.string Y] 9)
            have hnews : ∀ j u, ([.string Y] : List Value)[j]? = some u → ((storeR V br s p' e').alloc (.cells #[.string Y] 9)).cell? ((⟨V.heap.size, 0, none⟩ : Addr).add j) = some u := fun j u hj => by
              match j, hj with
              | 0, hj =>
                simp at hj
                subst hj
                have := World.cell?_alloc_new (w := storeR V br s p' e') #[.string Y] 9 0
                rw [hzr] at this
                simpa [Addr.add] using this
            have HG2 : Hid (RDAt w br ((storeR V br s p' e').alloc (.cells #[.string Y] 9)) s p' e' (.int .u32 num) (.int .u64 lsn) (.int .i64 kn) (.string head) sv) := g2
            have HZ2 : Hid (((storeR V br s p' e').alloc (.cells #[.string Y] 9)).heap.size = V.heap.size + 1) := by show _ = _; simp [hzr]
            have HGW : Hid (∀ j (hj : j < lo.length), ((storeR V br s p' e').alloc (.cells #[.string Y] 9)).cell? ⟨gl, j, none⟩ = some (.int .i64 (lo[j] : Nat))) := fun j hj => by
              have e1 : (storeR V br s p' e').cell? ⟨gl, j, none⟩ = V.cell? ⟨gl, j, none⟩ := by
                unfold storeR
                rw [World.cell?_setCell_other _ _ _ _ (by intro q; have := congrArg Addr.block q; simp only at this; omega), World.cell?_setCell_other _ _ _ _ (by intro q; have := congrArg Addr.block q; simp only at this; omega), World.cell?_setCell_other _ _ _ _ (by intro q; have := congrArg Addr.block q; simp only at this; omega)]
              have e2 := ((Below.refl (storeR V br s p' e').heap.size (storeR V br s p' e')).alloc (Nat.le_refl _) (.cells #[.string Y] 9)).cell (p := ⟨gl, j, none⟩) (by show gl < _; rw [hzr]; omega)
              exact e2.trans (e1.trans (HGV.out j hj))
            have hMlen : (M.map Value.string).length = m * 1 := hown1.1
            unfold storeR at ho2 hnews HG2 HZ2 HGW
            clear g2 hzr HGV
            go_wp2_with (at_builtin; refine wpList_append_own _ rfl _ _ 26 rfl wA.heap.size 9 i0 (.string ⟨#[]⟩) 1 16 Try.underlying26 hi hz0 hz1 hz2 rfl (by decide) _ m (M.map Value.string) rfl ho2 ⟨V.heap.size, 0, none⟩ 1 1 [.string Y] rfl rfl hnews (by intro u hu; simp at hu; subst hu; rfl) (by unfold maxLen; omega) (by omega) (by rw [HZ2.out]; omega) ?_)
            intro v' w8 hown8 hgrow _
            obtain ⟨g9, c9, hv9⟩ : ∃ g c, v' = .slice g (m + 1) c := by
              rcases hown8.2 with ⟨_, e2⟩ | ⟨g, cap, cur, e1, _⟩
              · omega
              · exact ⟨_, _, e1⟩
            subst hv9
            have hb8 := (Below.refl wA.heap.size _).grown hgrow (by rw [HZ2.out]; omega) (fun k hk => (ho2.lt k hk).1)
            have g3 := HG2.out.belowB (hb8.mono hbrA)
            have HGX : Hid (∀ j (hj : j < lo.length), w8.cell? ⟨gl, j, none⟩ = some (.int .i64 (lo[j] : Nat))) := fun j hj => (hb8.cell (p := ⟨gl, j, none⟩) hgl2).trans (HGW.out j hj)
            have hz8 : wA.heap.size ≤ w8.heap.size := Nat.le_trans (by rw [HZ2.out]; omega) hb8.size
            clear hgrow hb8 HG2 HZ2 ho2 hnews hown1 g1 a0 a1 a2 m0 m1 m2 c0 c1 c2 d0 d1 d2 d3 d4 HGW
            obtain ⟨d0, d1, d2, d3, d4⟩ := g3.pg.cells5
            obtain ⟨f0, f1, f2, f3, f4⟩ := g3.pg.open5
            go_wp2
            go_roundw
            case rel =>
              refine ⟨m + 1, p', e', .slice g9 (m + 1) c9, M ++ [Y], by omega, by go_num, g3.setP 4 _ (g3.pg.set4 _), by rw [List.map_append]; exact ownsRow_setCell_below hown8 (a := ⟨br + 1, 4, none⟩) (by show br + 1 < _; omega) _, by simpa using hz8, .inr ⟨gl, rfl, hgl1, hgl2, fun j hj => ?_⟩, fun x hx => ?_, HOKT.out⟩
              · rw [World.cell?_setCell_other _ _ _ _ (by intro q; have := congrArg Addr.block q; simp only at this; omega)]
                exact HGX.out j hj
              · rcases List.mem_append.1 hx with hx | hx
                · exact HG.out.1 x hx
                · rw [List.mem_singleton.1 hx]; exact hYs
            case measure => simp [intOf]; omega
          · obtain ⟨V, HVe⟩ : ∃ V, Hid (V = ((u1.setCell ⟨wr.heap.size, 0, none⟩ (.string s)).setCell ⟨wr.heap.size, 1, none⟩ (.int .i64 p')).setCell ⟨wr.heap.size, 2, none⟩ (.int .i64 e')) := ⟨_, rfl⟩
            have hbV : Below wr.heap.size wr V := by rw [HVe.out]; exact below_set3 (below_chain (((Below.refl _ _).alloc (Nat.le_refl _) _).drew) b1) (Nat.le_refl _) _ _ _
            have hn3 : Row3 V wr.heap.size (.string s) (.int .i64 p') (.int .i64 e') := by rw [HVe.out]; exact (Row3.mk k0 k1 k2 l0 l1 l2).set _ _ _
            have hnb : br + 2 ≤ wr.heap.size := by have := hst.lt; omega
            rw [← HVe.out]
            clear HVe
            have g1 := hst.below hbV
            have hown1 := ownsRow_below hown hbV
            have HGV : Hid (∀ j (hj : j < lo.length), V.cell? ⟨gl, j, none⟩ = some (.int .i64 (lo[j] : Nat))) := fun j hj => (hbV.cell (p := ⟨gl, j, none⟩) (by show gl < _; omega)).trans (HGC.out j hj)
            have hzV := Nat.le_trans hszA hbV.size
            have hlt1 := g1.lt
            clear k0 k1 k2 l0 l1 l2
            clear HGC hown hst a0 a1 a2 m0 m1 m2 hck HS HK HT HT2
            obtain ⟨a0, a1, a2, m0, m1, m2⟩ := g1.rd
            obtain ⟨c0, c1, c2, _, _, _⟩ := hn3
            obtain ⟨d0, d1, d2, d3, d4⟩ := g1.pg.cells5
            obtain ⟨i0, hi, hz0, hz1, hz2⟩ := info_parts iStr
            have hzr : (storeR V br s p' e').heap.size = V.heap.size := by simp [storeR]
            have g2 := (g1.setR p' e' hf2.1).below ((Below.refl _ _).alloc (Nat.le_refl _) (.cells #[.string Y] 9))
            have hbrA : br + 2 ≤ wA.heap.size := by omega
            have ho2 := (ownsRow_setCell_below (ownsRow_setCell_below (ownsRow_setCell_below hown1 (a := ⟨br, 0, none⟩) (by show br < _; omega) (.string s)) (a := ⟨br, 1, none⟩) (by show br < _; omega) (.int .i64 p')) (a := ⟨br, 2, none⟩) (by show br < _; omega) (.int .i64 e')).alloc (.cells #[.string Y] 9)
            have hnews : ∀ j u, ([.string Y] : List Value)[j]? = some u → ((storeR V br s p' e').alloc (.cells #[.string Y] 9)).cell? ((⟨V.heap.size, 0, none⟩ : Addr).add j) = some u := fun j u hj => by
              match j, hj with
              | 0, hj =>
                simp at hj
                subst hj
                have := World.cell?_alloc_new (w := storeR V br s p' e') #[.string Y] 9 0
                rw [hzr] at this
                simpa [Addr.add] using this
            have HG2 : Hid (RDAt w br ((storeR V br s p' e').alloc (.cells #[.string Y] 9)) s p' e' (.int .u32 num) (.int .u64 lsn) (.int .i64 kn) (.string head) sv) := g2
            have HZ2 : Hid (((storeR V br s p' e').alloc (.cells #[.string Y] 9)).heap.size = V.heap.size + 1) := by show _ = _; simp [hzr]
            have HGW : Hid (∀ j (hj : j < lo.length), ((storeR V br s p' e').alloc (.cells #[.string Y] 9)).cell? ⟨gl, j, none⟩ = some (.int .i64 (lo[j] : Nat))) := fun j hj => by
              have e1 : (storeR V br s p' e').cell? ⟨gl, j, none⟩ = V.cell? ⟨gl, j, none⟩ := by
                unfold storeR
                rw [World.cell?_setCell_other _ _ _ _ (by intro q; have := congrArg Addr.block q; simp only at this; omega), World.cell?_setCell_other _ _ _ _ (by intro q; have := congrArg Addr.block q; simp only at this; omega), World.cell?_setCell_other _ _ _ _ (by intro q; have := congrArg Addr.block q; simp only at this; omega)]
              have e2 := ((Below.refl (storeR V br s p' e').heap.size (storeR V br s p' e')).alloc (Nat.le_refl _) (.cells #[.string Y] 9)).cell (p := ⟨gl, j, none⟩) (by show gl < _; rw [hzr]; omega)
              exact e2.trans (e1.trans (HGV.out j hj))
            have hMlen : (M.map Value.string).length = m * 1 := hown1.1
            unfold storeR at ho2 hnews HG2 HZ2 HGW
            clear g2 hzr HGV
            go_wp2_with (at_builtin; refine wpList_append_own _ rfl _ _ 26 rfl wA.heap.size 9 i0 (.string ⟨#[]⟩) 1 16 Try.underlying26 hi hz0 hz1 hz2 rfl (by decide) _ m (M.map Value.string) rfl ho2 ⟨V.heap.size, 0, none⟩ 1 1 [.string Y] rfl rfl hnews (by intro u hu; simp at hu; subst hu; rfl) (by unfold maxLen; omega) (by omega) (by rw [HZ2.out]; omega) ?_)
            intro v' w8 hown8 hgrow _
            obtain ⟨g9, c9, hv9⟩ : ∃ g c, v' = .slice g (m + 1) c := by
              rcases hown8.2 with ⟨_, e2⟩ | ⟨g, cap, cur, e1, _⟩
              · omega
              · exact ⟨_, _, e1⟩
            subst hv9
            have hb8 := (Below.refl wA.heap.size _).grown hgrow (by rw [HZ2.out]; omega) (fun k hk => (ho2.lt k hk).1)
            have g3 := HG2.out.belowB (hb8.mono hbrA)
            have HGX : Hid (∀ j (hj : j < lo.length), w8.cell? ⟨gl, j, none⟩ = some (.int .i64 (lo[j] : Nat))) := fun j hj => (hb8.cell (p := ⟨gl, j, none⟩) hgl2).trans (HGW.out j hj)
            have hz8 : wA.heap.size ≤ w8.heap.size := Nat.le_trans (by rw [HZ2.out]; omega) hb8.size
            clear hgrow hb8 HG2 HZ2 ho2 hnews hown1 g1 a0 a1 a2 m0 m1 m2 c0 c1 c2 d0 d1 d2 d3 d4 HGW
            obtain ⟨d0, d1, d2, d3, d4⟩ := g3.pg.cells5
            obtain ⟨f0, f1, f2, f3, f4⟩ := g3.pg.open5
            go_wp2
            go_roundw
            case rel =>
              refine ⟨m + 1, p', e', .slice g9 (m + 1) c9, M ++ [Y], by omega, by go_num, g3.setP 4 _ (g3.pg.set4 _), by rw [List.map_append]; exact ownsRow_setCell_below hown8 (a := ⟨br + 1, 4, none⟩) (by show br + 1 < _; omega) _, by simpa using hz8, .inr ⟨gl, rfl, hgl1, hgl2, fun j hj => ?_⟩, fun x hx => ?_, HOKT.out⟩
              · rw [World.cell?_setCell_other _ _ _ _ (by intro q; have := congrArg Addr.block q; simp only at this; omega)]
                exact HGX.out j hj
              · rcases List.mem_append.1 hx with hx | hx
                · exact HG.out.1 x hx
                · rw [List.mem_singleton.1 hx]; exact hYs
            case measure => simp [intOf]; omega
        · obtain rfl : m = k := by omega
          have hMl : M.length = m := by have := hown.1; simpa using this
          obtain ⟨av, cv, hsv, hsf⟩ : ∃ av cv, sv = .slice av M.length cv ∧ StrsFrom (w.heap.size + 1) wr av M := by
            rcases hown.2 with ⟨e1, e2⟩ | ⟨g, cap, cur, e1, e2, _⟩
            · have : M = [] := List.eq_nil_of_length_eq_zero (by omega)
              subst this
              exact ⟨none, 0, e1, .inl rfl⟩
            · refine ⟨some ⟨g, 0, none⟩, cap, by rw [hMl]; exact e1, .inr ⟨g, 0, rfl, by have := hst.lo; have := (hown.lt g (by rw [e1]; rfl)).1; have := hlow.out; omega, (hown.lt g (by rw [e1]; rfl)).2, fun j hj => ?_⟩⟩
              have := hown.cells (g := g) (by rw [e1]; rfl) j (.string M[j]) (by simp [hj])
              rw [Addr.add_lit] at this
              exact this
          subst hsv
          have hPok : (⟨num, lsn, kn, head, M⟩ : SheetV).Ok wr av := ⟨by show num < _; omega, by show lsn < _; omega, by show (-9223372036854775808 : Int) ≤ (kn : Int) ∧ (kn : Int) ≤ _; omega, by show head.size ≤ _; omega, by show M.length ≤ _; omega, fun x hx => by have := HG.out.1 x hx; omega, hsf.at⟩
          have HEN : Hid (Calls Try.prog 10 #[.agg #[.int .u32 num, .int .u64 lsn, .int .i64 kn, .string head, .slice av M.length cv]] wr fun x w' => x = .returned (.tuple #[.string (encS ⟨num, lsn, kn, head, M⟩), .int .i64 (encE ⟨num, lsn, kn, head, M⟩)]) ∧ Below wr.heap.size wr w') := refEncode_any ⟨num, lsn, kn, head, M⟩ av cv wr hPok
          have HFT : Hid (encE ⟨num, lsn, kn, head, M⟩ = 0 → (⟨num, lsn, kn, head, M⟩ : SheetV).Fits) := (encE_fits hPok).1
          have HES : Hid (encE ⟨num, lsn, kn, head, M⟩ = 0 → encS ⟨num, lsn, kn, head, M⟩ = ⟨(encL ⟨num, lsn, kn, head, M⟩).toArray⟩) := fun e => by unfold encS; rw [if_pos e]
          have HCON : Hid (e = 0 → encE ⟨num, lsn, kn, head, M⟩ = 0 → encS ⟨num, lsn, kn, head, M⟩ = s → decE s = 0) := fun _ e2 e3 => by
            have := (dec_enc _ (HFT.out e2)).1
            rw [← HES.out e2, e3] at this
            exact this
          have hlo : w.heap.size < w.heap.size + 1 := by omega
          clear hMl
          by_cases hD0 : decE s = 0
          · have R := HRF.out hD0
            obtain ⟨q1, q2, q3⟩ := HG.out.2 hD0
            have e1 : hn = (decP s).head.size := by rw [← R.hn]; exact Hhn.out.symm
            have e2 : m = (decP s).slots.length := by rw [← R.n, ← e1]; exact Hn.out.symm
            have HOKP : Hid (decP s = ⟨num, lsn, kn, head, M⟩) := by
              have r1 := R.num; have r2 := R.lsn; have r3 := R.kind; have r4 := R.head
              rw [Hnum.out] at r1
              rw [Hlsn.out] at r2
              rw [Hkn.out] at r3
              rw [← e1, Hhead.out] at r4
              have r5 : M = (decP s).slots := by rw [q3, e2, List.take_length]
              show _ = _
              generalize decP s = P at *
              obtain ⟨P1, P2, P3, P4, P5⟩ := P
              simp only at r1 r2 r3 r4 r5
              subst r1 r2 r3 r4 r5
              rfl
            have F := R.fits
            rw [HOKP.out] at F
            have hE0 : encE ⟨num, lsn, kn, head, M⟩ = 0 := (encE_fits hPok).2 F
            have hS0 : encS ⟨num, lsn, kn, head, M⟩ = s := by
              have := R.enc
              rw [HOKP.out] at this
              rw [HES.out hE0, ← this]
            rw [hE0, hS0] at HEN
            have hss := str_eq (rfl : s = s)
            subst q2
            clear HES HFT HCON R F hE0 hS0 q1 q3 hPok HG hown e1 e2
            obtain ⟨a0, a1, a2, m0, m1, m2⟩ := hst.rd
            obtain ⟨d0, d1, d2, d3, d4⟩ := hst.pg.cells5
            go_wp2_with fail
            refine (HEN.out).mono ?_
            rintro x u1 ⟨rfl, b1⟩
            have g1 := hst.below b1
            have hs1 := hsf.below b1
            clear hst hsf a0 a1 a2 m0 m1 m2 d0 d1 d2 d3 d4
            obtain ⟨a0, a1, a2, m0, m1, m2⟩ := g1.rd
            obtain ⟨d0, d1, d2, d3, d4⟩ := g1.pg.cells5
            obtain ⟨y0, y1, y2, y3, y4⟩ := g1.res.cells5
            obtain ⟨f0, f1, f2, f3, f4⟩ := g1.res.open5
            go_wp2
            have hq := g1.res.set5 (.int .u32 num) (.int .u64 lsn) (.int .i64 kn) (.string head) (.slice av M.length cv)
            have bq := below_set5 g1.bel (b := w.heap.size) (Nat.le_refl _) (.int .u32 num) (.int .u64 lsn) (.int .i64 kn) (.string head) (.slice av M.length cv)
            obtain ⟨WX, HWX⟩ : ∃ WX, Hid (WX = store5 u1 w.heap.size (.int .u32 num) (.int .u64 lsn) (.int .i64 kn) (.string head) (.slice av M.length cv)) := ⟨_, rfl⟩
            rw [← HWX.out] at hq bq
            obtain ⟨r0, r1, r2, r3, r4⟩ := hq.cells5
            rw [show (((((u1.setCell ⟨w.heap.size, 0, none⟩ (.int .u32 num)).setCell ⟨w.heap.size, 1, none⟩ (.int .u64 lsn)).setCell ⟨w.heap.size, 2, none⟩ (.int .i64 kn)).setCell ⟨w.heap.size, 3, none⟩ (.string head)).setCell ⟨w.heap.size, 4, none⟩ (.slice av M.length cv)) = WX from HWX.out.symm]
            have sX := hs1.store5 (b := w.heap.size) hlo (.int .u32 num) (.int .u64 lsn) (.int .i64 kn) (.string head) (.slice av M.length cv)
            refine bodyPost_ret (v := .tuple #[.agg #[.int .u32 num, .int .u64 lsn, .int .i64 kn, .string head, .slice av M.length cv], .int .i64 0]) (by simp [results, Try.results13, go_sem, r0, r1, r2, r3, r4]) rfl ?_
            refine ⟨av, cv, by rw [HOKP.out, hD0]; rfl, ?_, bq⟩
            rw [HOKP.out, HWX.out]
            exact sX.at
          · have HB : Hid (decP s = sheet0 ∧ decE s = 6) := ⟨by unfold decP; rw [if_neg (fun q => hD0 q.1)], by rcases HD6.out with q | q; exact absurd q hD0; exact q⟩
            clear hown HG HRF hPok HFT HES
            generalize encE ⟨num, lsn, kn, head, M⟩ = EE at *
            generalize encS ⟨num, lsn, kn, head, M⟩ = SS at *
            by_cases t1 : e = 0
            · by_cases t2 : EE = 0
              · have t3 : SS ≠ s := fun q => hD0 (HCON.out t1 t2 q)
                have t3' := str_ne t3
                subst t1 t2
                clear HCON
                obtain ⟨a0, a1, a2, m0, m1, m2⟩ := hst.rd
                obtain ⟨d0, d1, d2, d3, d4⟩ := hst.pg.cells5
                go_wp2_with fail
                refine (HEN.out).mono ?_
                rintro x u1 ⟨rfl, b1⟩
                have g1 := hst.below b1
                have hs1 := hsf.below b1
                clear hst hsf a0 a1 a2 m0 m1 m2 d0 d1 d2 d3 d4
                obtain ⟨a0, a1, a2, m0, m1, m2⟩ := g1.rd
                obtain ⟨d0, d1, d2, d3, d4⟩ := g1.pg.cells5
                obtain ⟨y0, y1, y2, y3, y4⟩ := g1.res.cells5
                obtain ⟨f0, f1, f2, f3, f4⟩ := g1.res.open5
                go_wp2
                have hq := g1.res.set5 (.int .u32 0) (.int .u64 0) (.int .i64 0) (.string ⟨#[]⟩) (.slice none 0 0)
                have bq := below_set5 g1.bel (b := w.heap.size) (Nat.le_refl _) (.int .u32 0) (.int .u64 0) (.int .i64 0) (.string ⟨#[]⟩) (.slice none 0 0)
                obtain ⟨WX, HWX⟩ : ∃ WX, Hid (WX = store5 u1 w.heap.size (.int .u32 0) (.int .u64 0) (.int .i64 0) (.string ⟨#[]⟩) (.slice none 0 0)) := ⟨_, rfl⟩
                rw [← HWX.out] at hq bq
                obtain ⟨r0, r1, r2, r3, r4⟩ := hq.cells5
                rw [show (((((u1.setCell ⟨w.heap.size, 0, none⟩ (.int .u32 0)).setCell ⟨w.heap.size, 1, none⟩ (.int .u64 0)).setCell ⟨w.heap.size, 2, none⟩ (.int .i64 0)).setCell ⟨w.heap.size, 3, none⟩ (.string ⟨#[]⟩)).setCell ⟨w.heap.size, 4, none⟩ (.slice none 0 0)) = WX from HWX.out.symm]
                refine bodyPost_ret (v := .tuple #[.agg #[.int .u32 0, .int .u64 0, .int .i64 0, .string ⟨#[]⟩, .slice none 0 0], .int .i64 6]) (by simp [results, Try.results13, go_sem, r0, r1, r2, r3, r4]) rfl ?_
                exact ⟨none, 0, by rw [HB.out.1, HB.out.2]; rfl, by rw [HB.out.1]; exact .inl rfl, bq⟩
              · have t2' : (EE != 0) = true := by rw [bne_iff_ne]; exact t2
                subst t1
                clear HCON
                obtain ⟨a0, a1, a2, m0, m1, m2⟩ := hst.rd
                obtain ⟨d0, d1, d2, d3, d4⟩ := hst.pg.cells5
                go_wp2_with fail
                refine (HEN.out).mono ?_
                rintro x u1 ⟨rfl, b1⟩
                have g1 := hst.below b1
                have hs1 := hsf.below b1
                clear hst hsf a0 a1 a2 m0 m1 m2 d0 d1 d2 d3 d4
                obtain ⟨a0, a1, a2, m0, m1, m2⟩ := g1.rd
                obtain ⟨d0, d1, d2, d3, d4⟩ := g1.pg.cells5
                obtain ⟨y0, y1, y2, y3, y4⟩ := g1.res.cells5
                obtain ⟨f0, f1, f2, f3, f4⟩ := g1.res.open5
                go_wp2
                have hq := g1.res.set5 (.int .u32 0) (.int .u64 0) (.int .i64 0) (.string ⟨#[]⟩) (.slice none 0 0)
                have bq := below_set5 g1.bel (b := w.heap.size) (Nat.le_refl _) (.int .u32 0) (.int .u64 0) (.int .i64 0) (.string ⟨#[]⟩) (.slice none 0 0)
                obtain ⟨WX, HWX⟩ : ∃ WX, Hid (WX = store5 u1 w.heap.size (.int .u32 0) (.int .u64 0) (.int .i64 0) (.string ⟨#[]⟩) (.slice none 0 0)) := ⟨_, rfl⟩
                rw [← HWX.out] at hq bq
                obtain ⟨r0, r1, r2, r3, r4⟩ := hq.cells5
                rw [show (((((u1.setCell ⟨w.heap.size, 0, none⟩ (.int .u32 0)).setCell ⟨w.heap.size, 1, none⟩ (.int .u64 0)).setCell ⟨w.heap.size, 2, none⟩ (.int .i64 0)).setCell ⟨w.heap.size, 3, none⟩ (.string ⟨#[]⟩)).setCell ⟨w.heap.size, 4, none⟩ (.slice none 0 0)) = WX from HWX.out.symm]
                refine bodyPost_ret (v := .tuple #[.agg #[.int .u32 0, .int .u64 0, .int .i64 0, .string ⟨#[]⟩, .slice none 0 0], .int .i64 6]) (by simp [results, Try.results13, go_sem, r0, r1, r2, r3, r4]) rfl ?_
                exact ⟨none, 0, by rw [HB.out.1, HB.out.2]; rfl, by rw [HB.out.1]; exact .inl rfl, bq⟩
            · have t1' : (e != 0) = true := by rw [bne_iff_ne]; exact t1
              clear HCON
              obtain ⟨a0, a1, a2, m0, m1, m2⟩ := hst.rd
              obtain ⟨d0, d1, d2, d3, d4⟩ := hst.pg.cells5
              go_wp2_with fail
              refine (HEN.out).mono ?_
              rintro x u1 ⟨rfl, b1⟩
              have g1 := hst.below b1
              have hs1 := hsf.below b1
              clear hst hsf a0 a1 a2 m0 m1 m2 d0 d1 d2 d3 d4
              obtain ⟨a0, a1, a2, m0, m1, m2⟩ := g1.rd
              obtain ⟨d0, d1, d2, d3, d4⟩ := g1.pg.cells5
              obtain ⟨y0, y1, y2, y3, y4⟩ := g1.res.cells5
              obtain ⟨f0, f1, f2, f3, f4⟩ := g1.res.open5
              go_wp2
              have hq := g1.res.set5 (.int .u32 0) (.int .u64 0) (.int .i64 0) (.string ⟨#[]⟩) (.slice none 0 0)
              have bq := below_set5 g1.bel (b := w.heap.size) (Nat.le_refl _) (.int .u32 0) (.int .u64 0) (.int .i64 0) (.string ⟨#[]⟩) (.slice none 0 0)
              obtain ⟨WX, HWX⟩ : ∃ WX, Hid (WX = store5 u1 w.heap.size (.int .u32 0) (.int .u64 0) (.int .i64 0) (.string ⟨#[]⟩) (.slice none 0 0)) := ⟨_, rfl⟩
              rw [← HWX.out] at hq bq
              obtain ⟨r0, r1, r2, r3, r4⟩ := hq.cells5
              rw [show (((((u1.setCell ⟨w.heap.size, 0, none⟩ (.int .u32 0)).setCell ⟨w.heap.size, 1, none⟩ (.int .u64 0)).setCell ⟨w.heap.size, 2, none⟩ (.int .i64 0)).setCell ⟨w.heap.size, 3, none⟩ (.string ⟨#[]⟩)).setCell ⟨w.heap.size, 4, none⟩ (.slice none 0 0)) = WX from HWX.out.symm]
              refine bodyPost_ret (v := .tuple #[.agg #[.int .u32 0, .int .u64 0, .int .i64 0, .string ⟨#[]⟩, .slice none 0 0], .int .i64 6]) (by simp [results, Try.results13, go_sem, r0, r1, r2, r3, r4]) rfl ?_
              exact ⟨none, 0, by rw [HB.out.1, HB.out.2]; rfl, by rw [HB.out.1]; exact .inl rfl, bq⟩

end Go.Proofs.Ytbkdedkifbffhaa
