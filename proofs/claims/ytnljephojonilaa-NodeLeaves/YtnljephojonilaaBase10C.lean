/-
  The changes of NodeLeaves: what is told, and what it does.
-/
import Derived.Test.YtnljephojonilaaBase9C
namespace Go.Proofs.Ytnljephojonilaa
open Go.RowKit Go.Sort
set_option linter.unusedVariables false
set_option linter.unusedSimpArgs false

section
variable {w wx : World} {Pb lsn nx : Nat} {M : List ItemV} {a : Option Addr} {c mb mo cm : Nat} {e : EntV} {i : Nat}

theorem LvAt.ok (h : LvAt w wx Pb lsn nx M a c mb mo cm) : (leafV lsn nx M).Ok wx a := SheetV.Fits.ok (h.inv.fits h.lsn) h.slots

theorem LvAt.few (h : LvAt w wx Pb lsn nx M a c mb mo cm) : (leafV lsn nx M).slots.length ≤ 7036874417766 := by
  have := h.inv.len
  show (M.map ItemV.bs).length ≤ _
  rw [List.length_map]; omega

theorem there_yes {M : List ItemV} {e : EntV} {i : Nat} (h : thereF M e i = true) : ∃ hi : i < M.length, M[i].e = e := by
  unfold thereF at h
  by_cases hi : i < M.length
  · rw [dif_pos hi] at h
    exact ⟨hi, (eqE_iff _ _).1 h⟩
  · rw [dif_neg hi] at h; cases h

theorem lv_turn0 (h : LvAt w wx Pb lsn nx M a c mb mo cm) (hp : IsPlace M e i) (ht : thereF M e i = false) (v : Bool) :
    Calls Try.prog 16 #[(leafV lsn nx M).val a c, e.val, .bool v] wx fun r w' => r = .returned (.tuple #[op0.val, .int .i64 2]) ∧ Below wx.heap.size wx w' :=
  turn_none (leafV lsn nx M) a c e v wx h.ok h.few (leafV_B h.inv.may lsn nx) (by rw [leafV_L h.inv.may, findF_rises h.rise hp]; exact ht)

theorem lv_turn1 (h : LvAt w wx Pb lsn nx M a c mb mo cm) (hp : IsPlace M e i) (ht : thereF M e i = true) (hx : e.page < 4294967296) (hk : e.key.size ≤ 64) (v : Bool) :
    ∃ (hi : i < M.length) (O : OpV), Calls Try.prog 16 #[(leafV lsn nx M).val a c, e.val, .bool v] wx (fun r w' => r = .returned (.tuple #[O.val, .int .i64 0]) ∧ Below wx.heap.size wx w') ∧ OpGood lsn nx M O nx (M.set i ⟨M[i].e, v⟩) false := by
  obtain ⟨hi, he⟩ := there_yes ht
  have hf := findF_rises h.rise hp
  have := turn_ok (leafV lsn nx M) a c e v wx h.ok h.few hx (by omega) (leafV_B h.inv.may lsn nx) (by rw [leafV_L h.inv.may, hf]; exact ht)
  rw [leafV_L h.inv.may, hf] at this
  refine ⟨hi, _, this, fun wy a' c' hs _ => ?_, (fun _ _ _ _ q => by cases q), fun _ => h.inv.turn i hi rfl, fun _ => h.rise.turn i hi _ rfl, h.nx, by simp⟩
  rw [show ((i : Int)).toNat = i from by omega, he]
  exact apply_lset i ⟨e, v⟩ h.inv h.lsn hi he.symm hs

theorem lv_take0 (h : LvAt w wx Pb lsn nx M a c mb mo cm) {n : Int} (hn : n < 0 ∨ (M.length : Int) ≤ n) :
    Calls Try.prog 17 #[(leafV lsn nx M).val a c, .int .i64 n] wx fun r w' => r = .returned (.tuple #[op0.val, .int .i64 2]) ∧ Below wx.heap.size wx w' :=
  take_no (leafV lsn nx M) a c n wx (by show _ ∨ ((M.map ItemV.bs).length : Int) ≤ n; rw [List.length_map]; exact hn)

theorem lv_take1 (h : LvAt w wx Pb lsn nx M a c mb mo cm) {n : Nat} (hn : n < M.length) :
    ∃ O : OpV, Calls Try.prog 17 #[(leafV lsn nx M).val a c, .int .i64 n] wx (fun r w' => r = .returned (.tuple #[O.val, .int .i64 0]) ∧ Below wx.heap.size wx w') ∧ OpGood lsn nx M O nx (M.eraseIdx n) false :=
  ⟨_, take_yes (leafV lsn nx M) a c n wx h.ok (by show n < (M.map ItemV.bs).length; rw [List.length_map]; exact hn), fun wy a' c' hs _ => apply_ltake n h.inv h.lsn hn hs, (fun _ _ _ _ q => by cases q), fun _ => h.inv.del n hn, fun _ => h.rise.del n, h.nx, by rw [List.length_eraseIdx]; split <;> omega⟩

theorem lv_link (h : LvAt w wx Pb lsn nx M a c mb mo cm) {n : Nat} (hn : n < 4294967296) :
    ∃ O : OpV, Calls Try.prog 18 #[(leafV lsn nx M).val a c, .int .u32 n] wx (fun r w' => r = .returned O.val ∧ Below wx.heap.size wx w') ∧ OpGood lsn nx M O n M false :=
  ⟨_, link_any (leafV lsn nx M) a c n wx hn (by show (num4 nx).size ≤ _; rw [num4_size]; omega), fun wy a' c' hs _ => apply_llink n h.inv h.lsn hs, (fun _ _ _ _ q => by cases q), fun _ => h.inv, fun _ => h.rise, hn, by omega⟩

theorem lv_put0 (h : LvAt w wx Pb lsn nx M a c mb mo cm) (hp : IsPlace M e i) (ht : thereF M e i = true) (v : Bool) :
    Calls Try.prog 19 #[(leafV lsn nx M).val a c, (ItemV.mk e v).val] wx fun r w' => r = .returned (.tuple #[op0.val, .int .i64 121]) ∧ Below wx.heap.size wx w' :=
  putItem_twice (leafV lsn nx M) a c ⟨e, v⟩ wx h.ok h.few (leafV_B h.inv.may lsn nx) (by rw [leafV_L h.inv.may, findF_rises h.rise hp]; exact ht)

theorem lv_put1 (h : LvAt w wx Pb lsn nx M a c mb mo cm) (hp : IsPlace M e i) (ht : thereF M e i = false) (hm : e.May) (hk : e.key.size ≤ 64) (hM : M.length < 63) (v : Bool) :
    ∃ (O : OpV) (full : Bool), Calls Try.prog 19 #[(leafV lsn nx M).val a c, (ItemV.mk e v).val] wx (fun r w' => r = .returned (.tuple #[O.val, .int .i64 0]) ∧ Below wx.heap.size wx w') ∧ OpGood lsn nx M O nx (insN M i ⟨e, v⟩) full := by
  have hf := findF_rises h.rise hp
  have := putItem_ok (leafV lsn nx M) a c ⟨e, v⟩ wx h.ok h.few hm.page (show e.key.size ≤ _ by omega) (leafV_B h.inv.may lsn nx) (by rw [leafV_L h.inv.may]; show (findF M e).2 = false; rw [hf]; exact ht)
  rw [leafV_L h.inv.may, show findF M (ItemV.mk e v).e = ((i : Int), thereF M e i) from hf] at this
  refine ⟨_, !fitB M ⟨e, v⟩, this, fun wy a' c' hs q => ?_, fun wy a' c' hs q => ?_, fun q => ?_, fun _ => h.rise.ins hp ht, h.nx, by rw [insN_length]; omega⟩
  · exact apply_linsN i ⟨e, v⟩ h.inv h.lsn hp.le hM hk hs (by simpa using q)
  · exact apply_linsE i ⟨e, v⟩ h.inv h.lsn hp.le hM hk hs (by simpa using q)
  · exact h.inv.ins' i hm hk (by omega) (by simpa using q)

end

theorem lv_store5_cell {w : World} {b k i : Nat} (h : k ≠ b) (v0 v1 v2 v3 v4 : Value) : (store5 w b v0 v1 v2 v3 v4).cell? ⟨k, i, none⟩ = w.cell? ⟨k, i, none⟩ := by
  unfold store5
  rw [World.cell?_setCell_other _ _ _ _ (by intro q; exact h (congrArg Addr.block q).symm), World.cell?_setCell_other _ _ _ _ (by intro q; exact h (congrArg Addr.block q).symm), World.cell?_setCell_other _ _ _ _ (by intro q; exact h (congrArg Addr.block q).symm), World.cell?_setCell_other _ _ _ _ (by intro q; exact h (congrArg Addr.block q).symm), World.cell?_setCell_other _ _ _ _ (by intro q; exact h (congrArg Addr.block q).symm)]

theorem ABox.stored {w : World} {B b : Nat} {x : ActV} (h : ABox w B x) (hB : B ≠ b) (v0 v1 v2 v3 v4 : Value) : ABox (store5 w b v0 v1 v2 v3 v4) B x :=
  ⟨by rw [lv_store5_cell hB]; exact h.c0, by rw [lv_store5_cell hB]; exact h.c1, by rw [lv_store5_cell hB]; exact h.c2, by rw [lv_store5_cell hB]; exact h.c3, by rw [lv_store5_cell hB]; exact h.c4, by rw [lv_store5_cell hB]; exact h.c5, by unfold store5; simpa using h.lt⟩

theorem grown_below {g : Nat} {W V w' : World} (b : Below W.heap.size W V) (h : V.grownBy w' (some g)) (hg : W.heap.size ≤ g) : Below W.heap.size W w' :=
  ⟨h.os.trans b.os, h.tape.trans b.tape, h.output.trans b.output, Nat.le_trans b.size h.size, fun k hk => (h.block k (Nat.lt_of_lt_of_le hk b.size) (by simp; omega)).trans (b.block k hk)⟩

/-- One struct in a block of its own. -/
theorem row_one {w : World} {B : Nat} (y : ItemV) (h : w.heap[B]? = some (.cells #[.string y.e.key, .int .u32 y.e.page, .int .i64 y.e.slot, .bool y.live] 49 (0, 0))) : ItemsAt w (some ⟨B, 0, none⟩) [y] := by
  refine .inr ⟨B, 0, rfl, (Array.getElem?_eq_some_iff.1 h).1, fun i hi j v hv => ?_⟩
  have : i = 0 := by simp at hi; exact hi
  subst this
  unfold World.cell?
  simp only [h]
  simpa [ItemV.enc] using hv

theorem OwnR.cell {w : World} {base g cap : Nat} {M : List ItemV} (h : OwnR 4 ItemV.enc 49 w base g cap M) {i : Nat} (hi : i < M.length) : w.cell? ⟨g, i * 4 + 3, none⟩ = some (.bool M[i].live) ∧ w.frozen? ⟨g, i * 4 + 3, none⟩ = false := by
  refine ⟨?_, ?_⟩
  · rcases OwnR.rows (k := 4) (enc := ItemV.enc) (fun x => rfl) (by omega) h with q | ⟨b, o, e1, hb, hc⟩
    · subst q; simp at hi
    · simp only [Option.some.injEq, Addr.mk.injEq, and_true] at e1
      obtain ⟨rfl, rfl⟩ := e1
      have := hc i hi 3 _ rfl
      rwa [Nat.zero_add] at this
  · obtain ⟨cur, _, h2, _⟩ := h.parts
    unfold World.frozen?
    simp [h2]

theorem items_take {w : World} {b o : Nat} {M : List ItemV} (h : ItemsAt w (some ⟨b, o, none⟩) M) (n : Nat) : ItemsAt w (some ⟨b, o, none⟩) (M.take n) := by
  rcases h with q | ⟨b', o', e1, hb, hc⟩
  · subst q; exact .inl (by simp)
  · simp only [Option.some.injEq, Addr.mk.injEq, and_true] at e1
    obtain ⟨rfl, rfl⟩ := e1
    refine .inr ⟨b, o, rfl, hb, fun i hi j v hv => ?_⟩
    have hi' : i < M.length := by rw [List.length_take] at hi; omega
    rw [List.getElem_take] at hv
    exact hc i hi' j v hv

theorem items_drop {w : World} {b o : Nat} {M : List ItemV} (h : ItemsAt w (some ⟨b, o, none⟩) M) (n : Nat) : ItemsAt w (some ⟨b, o + n * 4, none⟩) (M.drop n) := by
  rcases h with q | ⟨b', o', e1, hb, hc⟩
  · subst q; exact .inl (by simp)
  · simp only [Option.some.injEq, Addr.mk.injEq, and_true] at e1
    obtain ⟨rfl, rfl⟩ := e1
    refine .inr ⟨b, o + n * 4, rfl, hb, fun i hi j v hv => ?_⟩
    have hi' : n + i < M.length := by rw [List.length_drop] at hi; omega
    rw [List.getElem_drop] at hv
    have := hc (n + i) hi' j v hv
    rwa [show o + (n + i) * 4 + j = o + n * 4 + i * 4 + j by omega] at this

theorem lv_mask (n : Int) : bits .and .i64 n 4095 = n % 4096 := by
  have := and_mask n 12 (by omega)
  simpa using this

end Go.Proofs.Ytnljephojonilaa
