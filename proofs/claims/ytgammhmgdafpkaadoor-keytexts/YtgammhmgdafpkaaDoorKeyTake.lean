/-
  Rows of values that are being filled; the walk of key.take.
-/
import Derived.Test.YtgammhmgdafpkaaDoorKeyRow
import Derived.Test.YtgammhmgdafpkaaDoorNewReader
namespace Go.Proofs.YtgammhmgdafpkaaDoor
open Go.RowKit Go.Sort
set_option linter.unusedVariables false
set_option linter.unusedSimpArgs false

/-- A row of N values that may be written: cell j holds f j. -/
def KRow (w : World) (b N : Nat) (f : Nat → Value) : Prop :=
  ∀ j, j < N → w.cell? ⟨b, j, none⟩ = some (f j) ∧ w.frozen? ⟨b, j, none⟩ = false

theorem KRow.congr {w : World} {b N : Nat} {f g : Nat → Value} (h : KRow w b N f) (e : ∀ j, j < N → f j = g j) : KRow w b N g :=
  fun j hj => by rw [← e j hj]; exact h j hj

theorem KRow.set {w : World} {b N : Nat} {f : Nat → Value} (h : KRow w b N f) {k : Nat} (hk : k < N) (v : Value) :
    KRow (w.setCell ⟨b, k, none⟩ v) b N (fun j => if j = k then v else f j) := by
  intro j hj
  refine ⟨?_, by rw [World.frozen?_setCell]; exact (h j hj).2⟩
  by_cases e : j = k
  · subst e; simp only [if_pos]; exact World.cell?_setCell_same _ _ _ (h j hj).1
  · simp only [if_neg e]; rw [World.cell?_setCell_other _ _ _ _ (by intro q; exact e (by simpa using q.symm))]; exact (h j hj).1

theorem KRow.below {w w' : World} {b N : Nat} {f : Nat → Value} (h : KRow w b N f) {B : Nat} (k : Below B w w') (hb : b < B) : KRow w' b N f :=
  fun j hj => ⟨(k.cell (p := ⟨b, j, none⟩) hb).trans (h j hj).1, (k.frozen (p := ⟨b, j, none⟩) hb).trans (h j hj).2⟩

theorem KRow.only {w w' : World} {b N : Nat} {f : Nat → Value} (h : KRow w b N f) {r : Nat} (k : Only r w w') (hb : b < w.heap.size) (hr : b ≠ r) : KRow w' b N f :=
  fun j hj => ⟨(k.cell (p := ⟨b, j, none⟩) hb hr).trans (h j hj).1, (World.frozen?_of_block (w := w) (a := ⟨b, j, none⟩) (k.block b hb hr)).trans (h j hj).2⟩

theorem kOnly_setNew {b : Nat} {w w' : World} (h : Only b w w') {k : Nat} (hk : w.heap.size ≤ k) (i : Nat) (v : Value) : Only b w (w'.setCell ⟨k, i, none⟩ v) :=
  ⟨h.os, h.tape, h.output, by simpa using h.size, fun j hj hb => (Below.heap_setCell _ _ _ _ (by simp; omega)).trans (h.block j hj hb)⟩

theorem kOnly_alloc {b : Nat} {w w' : World} (h : Only b w w') (o : Obj) : Only b w (w'.alloc o) := h.trans (Only.of_below ((Below.refl _ _).alloc (Nat.le_refl _) _))

theorem kReader_setOther {w : World} {b : Nat} {s : ByteArray} {p : Nat} {e : Int} (h : IsReader w b s p e) {k i : Nat} (hk : k ≠ b) (v : Value) : IsReader (w.setCell ⟨k, i, none⟩ v) b s p e := by
  have ne : ∀ o, (⟨k, i, none⟩ : Addr) ≠ ⟨b, o, none⟩ := fun o q => hk (congrArg Addr.block q)
  exact ⟨by rw [World.cell?_setCell_other _ _ _ _ (ne 0)]; exact h.c0, by rw [World.cell?_setCell_other _ _ _ _ (ne 1)]; exact h.c1, by rw [World.cell?_setCell_other _ _ _ _ (ne 2)]; exact h.c2,
    by rw [World.frozen?_setCell]; exact h.f1, by rw [World.frozen?_setCell]; exact h.f2, h.le, h.sz, by simpa using h.lt⟩

theorem kReader_alloc {w : World} {b : Nat} {s : ByteArray} {p : Nat} {e : Int} (h : IsReader w b s p e) (o : Obj) : IsReader (w.alloc o) b s p e := h.below ((Below.refl _ _).alloc (Nat.le_refl _) _)

/-- make of a row of structs. -/
theorem kmake_rows {P : Program} (t e : TypeId) (cs : Array Value) (size bytes : Nat) (ht : P.underlying t = some (.slice e)) (hinfo : (P.info? e).map (fun i => (i.zero, i.size, i.bytes)) = some (some (.agg cs), size, bytes))
    (kl kc : IntKind) (n : Nat) (hbytes : bytes * n ≤ 281474976710656) (h63 : n ≤ 9223372036854775807) (w : World) :
    (Instr.makeSlice t (.int kl (n : Int)) (.int kc (n : Int))).run P w = .ok (.slice (some ⟨w.heap.size, 0, none⟩) n n) (w.alloc (.cells (madeCells cs (n * size)) e)) := by
  obtain ⟨i, hi, hzz⟩ := Option.map_eq_some_iff.1 hinfo
  simp only [Prod.mk.injEq] at hzz
  obtain ⟨hz, hs, hb⟩ := hzz
  have hb' : (i.bytes : Int) * (n : Int) ≤ 281474976710656 := by
    have h : ((i.bytes * n : Nat) : Int) ≤ 281474976710656 := by rw [hb]; omega
    rwa [Int.natCast_mul] at h
  have hr := run_make (P := P) w t e i (.agg cs) ht hi hz kl kc n n (by omega) (Int.le_refl _) hb' (by omega)
  simp only [Int.toNat_natCast, hs] at hr
  exact hr

theorem kRow_made (w : World) (z : Array Value) (hz : 0 < z.size) (N : Nat) (t : TypeId) : KRow (w.alloc (.cells (madeCells z N) t)) w.heap.size N (fun j => z[j % z.size]!) := by
  intro j hj
  refine ⟨?_, by simp⟩
  rw [World.cell?_alloc_new]
  simp [madeCells, hj]

/-- The value that is none. -/
def val0 : ValV := ⟨0, 0, ⟨#[]⟩⟩

/-- The cells of a row of values. -/
def cellV (L : List ValV) (j : Nat) : Value := if j % 3 = 0 then .int .i64 (L[j / 3]?.getD val0).kind else if j % 3 = 1 then .int .i64 (L[j / 3]?.getD val0).n else .string (L[j / 3]?.getD val0).S

theorem cellV_nil (j : Nat) : cellV [] j = #[Value.int .i64 0, .int .i64 0, .string ⟨#[]⟩][j % 3]! := by
  unfold cellV
  have : j % 3 = 0 ∨ j % 3 = 1 ∨ j % 3 = 2 := by omega
  rcases this with h | h | h <;> simp [h, val0]

theorem cellV_snoc (L : List ValV) (v : ValV) (j : Nat) : cellV (L ++ [v]) j = if j = L.length * 3 + 2 then .string v.S else if j = L.length * 3 + 1 then .int .i64 v.n else if j = L.length * 3 then .int .i64 v.kind else cellV L j := by
  unfold cellV
  by_cases h2 : j = L.length * 3 + 2
  · subst h2
    rw [if_pos rfl, if_neg (by omega), if_neg (by omega), show (L.length * 3 + 2) / 3 = L.length by omega]; simp
  · rw [if_neg h2]
    by_cases h1 : j = L.length * 3 + 1
    · subst h1
      rw [if_pos rfl, if_neg (by omega), if_pos (by omega), show (L.length * 3 + 1) / 3 = L.length by omega]; simp
    · rw [if_neg h1]
      by_cases h0 : j = L.length * 3
      · subst h0
        rw [if_pos rfl, if_pos (by omega), show (L.length * 3) / 3 = L.length by omega]; simp
      · rw [if_neg h0]
        have h3 : j / 3 ≠ L.length := by omega
        rw [show (L ++ [v])[j / 3]? = L[j / 3]? by
          by_cases h4 : j / 3 < L.length
          · rw [List.getElem?_append_left h4]
          · rw [List.getElem?_eq_none (by simp; omega), List.getElem?_eq_none (by omega)]]

theorem KRow.vals {w : World} {b : Nat} {L : List ValV} (hb : b < w.heap.size) (h : KRow w b (L.length * 3) (cellV L)) : ValsAt w (some ⟨b, 0, none⟩) L := by
  refine .inr ⟨b, 0, rfl, hb, fun i hi => ?_⟩
  have h0 := (h (i * 3) (by omega)).1
  have h1 := (h (i * 3 + 1) (by omega)).1
  have h2 := (h (i * 3 + 2) (by omega)).1
  unfold cellV at h0 h1 h2
  rw [if_pos (by omega), show i * 3 / 3 = i by omega, List.getElem?_eq_getElem hi] at h0
  rw [if_neg (by omega), if_pos (by omega), show (i * 3 + 1) / 3 = i by omega, List.getElem?_eq_getElem hi] at h1
  rw [if_neg (by omega), if_neg (by omega), show (i * 3 + 2) / 3 = i by omega, List.getElem?_eq_getElem hi] at h2
  exact ⟨by rw [Nat.zero_add]; exact h0, by rw [Nat.zero_add]; exact h1, by rw [Nat.zero_add]; exact h2⟩

/-- A number of 64 bits with its sign. -/
def sgn (x : Nat) : Int := if x < 9223372036854775808 then x else (x : Int) - 18446744073709551616

theorem sgn_wrap (x : Nat) (h : x < 18446744073709551616) : IntKind.i64.wrap (x : Int) = sgn x := by
  rw [IntKind.wrap_i64]; unfold sgn; split <;> omega

theorem knumF_lt (s : ByteArray) (p : Nat) (e : Int) (n : Nat) : (numF s p e (n : Int)).2.2 < 2 ^ (8 * n) := by
  have h0 : 0 < 2 ^ (8 * n) := Nat.two_pow_pos _
  unfold numF
  repeat' split
  all_goals first
    | exact h0
    | (simp only [Int.toNat_natCast]
       exact le_lt_of (l := part s p n) (n := n) (by unfold part; rw [List.length_take]; omega))

/-- What take does: the place, the error, the value. -/
def takeF (s : ByteArray) (p : Nat) (e : Int) : Nat × Int × ValV :=
  if (numF s p e 1).2.2 = 1 then
    ((numF s (numF s p e 1).1 (numF s p e 1).2.1 8).1, (numF s (numF s p e 1).1 (numF s p e 1).2.1 8).2.1, ⟨1, sgn (numF s (numF s p e 1).1 (numF s p e 1).2.1 8).2.2, ⟨#[]⟩⟩)
  else if (numF s p e 1).2.2 = 2 then
    ((bytesF s (numF s (numF s p e 1).1 (numF s p e 1).2.1 1).1 (numF s (numF s p e 1).1 (numF s p e 1).2.1 1).2.1 (numF s (numF s p e 1).1 (numF s p e 1).2.1 1).2.2).1,
     (bytesF s (numF s (numF s p e 1).1 (numF s p e 1).2.1 1).1 (numF s (numF s p e 1).1 (numF s p e 1).2.1 1).2.1 (numF s (numF s p e 1).1 (numF s p e 1).2.1 1).2.2).2.1,
     ⟨2, 0, ⟨(bytesF s (numF s (numF s p e 1).1 (numF s p e 1).2.1 1).1 (numF s (numF s p e 1).1 (numF s p e 1).2.1 1).2.1 (numF s (numF s p e 1).1 (numF s p e 1).2.1 1).2.2).2.2.toArray⟩⟩)
  else ((numF s p e 1).1, (numF s p e 1).2.1, ⟨(numF s p e 1).2.2, 0, ⟨#[]⟩⟩)

set_option maxHeartbeats 1600000 in
theorem take_any {w : World} {b : Nat} {s : ByteArray} {p : Nat} {e : Int} (h : IsReader w b s p e) :
    Calls Tryd.prog 51 #[.pointer (some ⟨b, 0, none⟩)] w fun x w' =>
      x = .returned (.agg #[.int .i64 (takeF s p e).2.2.kind, .int .i64 (takeF s p e).2.2.n, .string (takeF s p e).2.2.S]) ∧ IsReader w' b s (takeF s p e).1 (takeF s p e).2.1 ∧ Only b w w' := by
  have hlt := h.lt
  obtain ⟨W, HW⟩ : ∃ W, Hid (W = w.alloc (.cells #[.int .i64 0, .int .i64 0, .string ⟨#[]⟩] 35)) := ⟨_, rfl⟩
  have HN : Hid (Calls Tryd.prog 50 #[.pointer (some ⟨b, 0, none⟩), .int .i64 1] W fun x w' => x = .returned (.int .u64 (numF s p e 1).2.2) ∧ IsReader w' b s (numF s p e 1).1 (numF s p e 1).2.1 ∧ Only b W w') := by
    show Calls _ _ _ _ _
    rw [HW.out]; exact number_any (kReader_alloc h _) 1
  have hO : Only b w W := by rw [HW.out]; exact kOnly_alloc (Only.refl _ _) _
  have hzW : W.heap.size = w.heap.size + 1 := by rw [HW.out]; simp
  have HzW := hidk hzW
  have hd0 : ∀ i, i < 3 → W.frozen? ⟨w.heap.size, i, none⟩ = false := fun i hi => by rw [HW.out]; simp
  have hc0 : W.heap[w.heap.size]? = some (.cells #[.int .i64 0, .int .i64 0, .string ⟨#[]⟩] 35 (0, 0)) := by rw [HW.out]; exact heap_alloc_new _ _
  have HT : Hid (takeF s p e = takeF s p e) := rfl
  conv at HT => arg 1; rhs; unfold takeF
  have hk := knumF_lt s p e 1
  rw [show (((1 : Nat) : Int)) = 1 from rfl] at hk
  generalize numF s p e 1 = N1 at *
  obtain ⟨p1, e1, k⟩ := N1
  simp only at HN HT hk
  have hk' : k < 256 := hk
  have q0 : IntKind.i64.wrap (k : Int) = (k : Int) := by rw [IntKind.wrap_i64]; omega
  clear hk hzW
  by_cases h1 : k = 1
  · subst h1
    simp only [if_pos] at HT
    have hx := knumF_lt s p1 e1 8
    rw [show (((8 : Nat) : Int)) = 8 from rfl] at hx
    obtain ⟨⟨p2, e2, x⟩, H8⟩ : ∃ X, Hid (numF s p1 e1 8 = X) := ⟨_, rfl⟩
    rw [H8.out] at HT hx
    simp only at HT hx
    have hsg := sgn_wrap x hx
    rw [HT.out]
    clear HT
    simp only
    go_enter Tryd.func51, Tryd.ntmps51
    go_wp2_with fail
    rw [← HW.out]
    refine HN.out.mono ?_
    rintro y w1 ⟨rfl, h1, o1⟩
    clear HW HN
    have HD1 := hidk ((o1.block w.heap.size (by rw [HzW.out]; omega) (by omega)).trans hc0)
    obtain ⟨W2, HW2⟩ : ∃ W2, Hid (W2 = w1.alloc (.cells #[.int .i64 1, .int .i64 0, .string ⟨#[]⟩] 35)) := ⟨_, rfl⟩
    have hzz : w.heap.size < w1.heap.size := by have := o1.size; have := HzW.out; omega
    have HN2 : Hid (Calls Tryd.prog 50 #[.pointer (some ⟨b, 0, none⟩), .int .i64 8] W2 fun x' w' => x' = .returned (.int .u64 x) ∧ IsReader w' b s p2 e2 ∧ Only b W2 w') := by
      have := number_any (kReader_alloc h1 (.cells #[.int .i64 1, .int .i64 0, .string ⟨#[]⟩] 35)) 8
      rw [H8.out, ← HW2.out] at this
      exact this
    have HO2 : Hid (Only b w W2) := by show Only _ _ _; rw [HW2.out]; exact kOnly_alloc (hO.trans o1) _
    have hc2 : W2.heap[w1.heap.size]? = some (.cells #[.int .i64 1, .int .i64 0, .string ⟨#[]⟩] 35 (0, 0)) := by rw [HW2.out]; exact heap_alloc_new _ _
    have hz2 : w1.heap.size < W2.heap.size := by rw [HW2.out]; simp
    have HD2 : Hid (W2.heap[w.heap.size]? = some (.cells #[.int .i64 0, .int .i64 0, .string ⟨#[]⟩] 35 (0, 0))) := by
      show _ = _
      rw [HW2.out]; exact (((Below.refl w1.heap.size w1).alloc (Nat.le_refl _) _).block _ hzz).trans HD1.out
    go_wp2_with fail
    rw [← HW2.out]
    clear HW2 hO o1 h1 HD1 hc0 hd0
    refine HN2.out.mono ?_
    rintro y w3 ⟨rfl, h3, o3⟩
    have HC3 := (o3.block w1.heap.size hz2 (by omega)).trans hc2
    have HD3 := hidk ((o3.block w.heap.size (by omega) (by omega)).trans HD2.out)
    clear HN2 hc2 HD2
    have y0 : w3.cell? ⟨w1.heap.size, 0, none⟩ = some (.int .i64 1) := by unfold World.cell?; simp [HC3]
    have y1 : w3.cell? ⟨w1.heap.size, 1, none⟩ = some (.int .i64 0) := by unfold World.cell?; simp [HC3]
    have y2 : w3.cell? ⟨w1.heap.size, 2, none⟩ = some (.string ⟨#[]⟩) := by unfold World.cell?; simp [HC3]
    have f1 : w3.frozen? ⟨w1.heap.size, 1, none⟩ = false := by unfold World.frozen?; simp [HC3]
    have z0 : w3.cell? ⟨w.heap.size, 0, none⟩ = some (.int .i64 0) := by unfold World.cell?; simp [HD3.out]
    have z1 : w3.cell? ⟨w.heap.size, 1, none⟩ = some (.int .i64 0) := by unfold World.cell?; simp [HD3.out]
    have z2 : w3.cell? ⟨w.heap.size, 2, none⟩ = some (.string ⟨#[]⟩) := by unfold World.cell?; simp [HD3.out]
    have g0 : w3.frozen? ⟨w.heap.size, 0, none⟩ = false := by unfold World.frozen?; simp [HD3.out]
    have g1 : w3.frozen? ⟨w.heap.size, 1, none⟩ = false := by unfold World.frozen?; simp [HD3.out]
    have g2 : w3.frozen? ⟨w.heap.size, 2, none⟩ = false := by unfold World.frozen?; simp [HD3.out]
    have HO3 := hidk (HO2.out.trans o3)
    have hne : w1.heap.size ≠ w.heap.size := by omega
    have hne' : w.heap.size ≠ w1.heap.size := by omega
    clear HC3
    go_wp2
    refine bodyPost_ret (v := .agg #[.int .i64 1, .int .i64 (sgn x), .string ⟨#[]⟩]) (by simp [results, Tryd.results51, go_sem, z0, z1, z2, hne, hne']) rfl ⟨rfl, ?_, ?_⟩
    · exact kReader_setOther (kReader_setOther (kReader_setOther (kReader_setOther h3 (by omega) _) (by omega) _) (by omega) _) (by omega) _
    · exact kOnly_setNew (kOnly_setNew (kOnly_setNew (kOnly_setNew HO3.out (by omega) _ _) (by omega) _ _) (by omega) _ _) (by omega) _ _
  · by_cases h2 : k = 2
    · subst h2
      simp only [if_neg (show ¬ (2 : Nat) = 1 by omega), if_pos] at HT
      have hx := knumF_lt s p1 e1 1
      rw [show (((1 : Nat) : Int)) = 1 from rfl] at hx
      obtain ⟨⟨p2, e2, x⟩, H8⟩ : ∃ X, Hid (numF s p1 e1 1 = X) := ⟨_, rfl⟩
      rw [H8.out] at HT hx
      simp only at HT hx
      obtain ⟨⟨p3, e3, t⟩, H9⟩ : ∃ X, Hid (bytesF s p2 e2 (x : Int) = X) := ⟨_, rfl⟩
      rw [H9.out] at HT
      simp only at HT
      have hx' : x < 256 := hx
      have hsg : IntKind.i64.wrap (x : Int) = (x : Int) := by rw [IntKind.wrap_i64]; omega
      rw [HT.out]
      clear HT hx
      simp only
      go_enter Tryd.func51, Tryd.ntmps51
      go_wp2_with fail
      rw [← HW.out]
      refine HN.out.mono ?_
      rintro y w1 ⟨rfl, h1, o1⟩
      clear HW HN
      have HD1 := hidk ((o1.block w.heap.size (by rw [HzW.out]; omega) (by omega)).trans hc0)
      obtain ⟨W2, HW2⟩ : ∃ W2, Hid (W2 = w1.alloc (.cells #[.int .i64 2, .int .i64 0, .string ⟨#[]⟩] 35)) := ⟨_, rfl⟩
      have hzz : w.heap.size < w1.heap.size := by have := o1.size; have := HzW.out; omega
      have HN2 : Hid (Calls Tryd.prog 50 #[.pointer (some ⟨b, 0, none⟩), .int .i64 1] W2 fun x' w' => x' = .returned (.int .u64 x) ∧ IsReader w' b s p2 e2 ∧ Only b W2 w') := by
        have := number_any (kReader_alloc h1 (.cells #[.int .i64 2, .int .i64 0, .string ⟨#[]⟩] 35)) 1
        rw [H8.out, ← HW2.out] at this
        exact this
      have HO2 : Hid (Only b w W2) := by show Only _ _ _; rw [HW2.out]; exact kOnly_alloc (hO.trans o1) _
      have hc2 : W2.heap[w1.heap.size]? = some (.cells #[.int .i64 2, .int .i64 0, .string ⟨#[]⟩] 35 (0, 0)) := by rw [HW2.out]; exact heap_alloc_new _ _
      have hz2 : w1.heap.size < W2.heap.size := by rw [HW2.out]; simp
      have HD2 : Hid (W2.heap[w.heap.size]? = some (.cells #[.int .i64 0, .int .i64 0, .string ⟨#[]⟩] 35 (0, 0))) := by
        show _ = _
        rw [HW2.out]; exact (((Below.refl w1.heap.size w1).alloc (Nat.le_refl _) _).block _ hzz).trans HD1.out
      go_wp2_with fail
      rw [← HW2.out]
      clear HW2 hO o1 h1 HD1 hc0 hd0
      refine HN2.out.mono ?_
      rintro y wb ⟨rfl, hb3, ob⟩
      go_wp2_with fail
      refine (bytes_any hb3 (x : Int) (by omega)).mono ?_
      rintro y w3 ⟨rfl, h3, oc⟩
      rw [H9.out] at h3 ⊢
      have o3 := ob.trans oc
      clear hb3 ob oc
      have HC3 := (o3.block w1.heap.size hz2 (by omega)).trans hc2
      have HD3 := hidk ((o3.block w.heap.size (by omega) (by omega)).trans HD2.out)
      clear HN2 hc2 HD2
      have y0 : w3.cell? ⟨w1.heap.size, 0, none⟩ = some (.int .i64 2) := by unfold World.cell?; simp [HC3]
      have y1 : w3.cell? ⟨w1.heap.size, 1, none⟩ = some (.int .i64 0) := by unfold World.cell?; simp [HC3]
      have y2 : w3.cell? ⟨w1.heap.size, 2, none⟩ = some (.string ⟨#[]⟩) := by unfold World.cell?; simp [HC3]
      have f1 : w3.frozen? ⟨w1.heap.size, 2, none⟩ = false := by unfold World.frozen?; simp [HC3]
      have z0 : w3.cell? ⟨w.heap.size, 0, none⟩ = some (.int .i64 0) := by unfold World.cell?; simp [HD3.out]
      have z1 : w3.cell? ⟨w.heap.size, 1, none⟩ = some (.int .i64 0) := by unfold World.cell?; simp [HD3.out]
      have z2 : w3.cell? ⟨w.heap.size, 2, none⟩ = some (.string ⟨#[]⟩) := by unfold World.cell?; simp [HD3.out]
      have g0 : w3.frozen? ⟨w.heap.size, 0, none⟩ = false := by unfold World.frozen?; simp [HD3.out]
      have g1 : w3.frozen? ⟨w.heap.size, 1, none⟩ = false := by unfold World.frozen?; simp [HD3.out]
      have g2 : w3.frozen? ⟨w.heap.size, 2, none⟩ = false := by unfold World.frozen?; simp [HD3.out]
      have HO3 := hidk (HO2.out.trans o3)
      have hne : w1.heap.size ≠ w.heap.size := by omega
      have hne' : w.heap.size ≠ w1.heap.size := by omega
      clear HC3
      go_wp2
      refine bodyPost_ret (v := .agg #[.int .i64 2, .int .i64 0, .string ⟨t.toArray⟩]) (by simp [results, Tryd.results51, go_sem, z0, z1, z2, hne, hne']) rfl ⟨rfl, ?_, ?_⟩
      · exact kReader_setOther (kReader_setOther (kReader_setOther (kReader_setOther h3 (by omega) _) (by omega) _) (by omega) _) (by omega) _
      · exact kOnly_setNew (kOnly_setNew (kOnly_setNew (kOnly_setNew HO3.out (by omega) _ _) (by omega) _ _) (by omega) _ _) (by omega) _ _
    · simp only [if_neg h1, if_neg h2] at HT
      have k1 : ((k : Int) == 1) = false := by rw [beq_eq_false_iff_ne]; omega
      have k2 : ((k : Int) == 2) = false := by rw [beq_eq_false_iff_ne]; omega
      rw [HT.out]
      clear HT
      simp only
      go_enter Tryd.func51, Tryd.ntmps51
      go_wp2_with fail
      rw [← HW.out]
      refine HN.out.mono ?_
      rintro y w1 ⟨rfl, h3, o1⟩
      clear HW HN
      have HD3 := hidk ((o1.block w.heap.size (by rw [HzW.out]; omega) (by omega)).trans hc0)
      have hzz : w.heap.size < w1.heap.size := by have := o1.size; have := HzW.out; omega
      have z0 : w1.cell? ⟨w.heap.size, 0, none⟩ = some (.int .i64 0) := by unfold World.cell?; simp [HD3.out]
      have z1 : w1.cell? ⟨w.heap.size, 1, none⟩ = some (.int .i64 0) := by unfold World.cell?; simp [HD3.out]
      have z2 : w1.cell? ⟨w.heap.size, 2, none⟩ = some (.string ⟨#[]⟩) := by unfold World.cell?; simp [HD3.out]
      have g0 : w1.frozen? ⟨w.heap.size, 0, none⟩ = false := by unfold World.frozen?; simp [HD3.out]
      have g1 : w1.frozen? ⟨w.heap.size, 1, none⟩ = false := by unfold World.frozen?; simp [HD3.out]
      have g2 : w1.frozen? ⟨w.heap.size, 2, none⟩ = false := by unfold World.frozen?; simp [HD3.out]
      have HO3 := hidk (hO.trans o1)
      have hne : w1.heap.size ≠ w.heap.size := by omega
      have hne' : w.heap.size ≠ w1.heap.size := by omega
      clear hc0 hd0 hO
      go_wp2
      refine bodyPost_ret (v := .agg #[.int .i64 (k : Int), .int .i64 0, .string ⟨#[]⟩]) (by simp [results, Tryd.results51, go_sem, z0, z1, z2, hne, hne', hzz]) rfl ⟨rfl, ?_, ?_⟩
      · exact kReader_alloc (kReader_setOther (kReader_setOther (kReader_setOther h3 (by omega) _) (by omega) _) (by omega) _) _
      · exact kOnly_alloc (kOnly_setNew (kOnly_setNew (kOnly_setNew HO3.out (by omega) _ _) (by omega) _ _) (by omega) _ _) _

end Go.Proofs.YtgammhmgdafpkaaDoor
