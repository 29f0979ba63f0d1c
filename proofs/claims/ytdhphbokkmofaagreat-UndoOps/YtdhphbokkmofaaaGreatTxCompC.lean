/-
  The walk of (*txn.Manager).Compensate.
-/
import Derived.Test.YtdhphbokkmofaaaGreatTxPartJ
set_option linter.unusedVariables false
set_option linter.unusedSimpArgs false
namespace Go.Proofs.YtdhphbokkmofaaaGreat
open Go.RowKit Go.Sort

def recC (t : MtV) (n : Int) (page : Nat) (op : OpV) (next : Nat) : RecV := ⟨2, n, t.last, next, page, op, 0, 0, ⟨#[]⟩, 0, 0, false, [], []⟩

def compS (t : MtV) (n : Int) (page : Nat) (op : OpV) (next : Nat) : ByteArray := ⟨(encR (recC t n page op next)).toArray⟩
def compN (t : MtV) (next : Nat) : Nat := wayN t t.state (owedN t.debts (standN t.debts next))
def compT (l : LG) (t : MtV) (s : ByteArray) (next : Nat) : MtV := { spendT l t s (compN t next) with next := next, debts := t.debts.take (standN t.debts next) }

section
variable {w : World} {m p : Nat} {X : Int → Nat} {A : Nat → Prop} {P : PG} {l : LG} {d : DG} {M : MgG}

set_option maxHeartbeats 6400000 in
set_option maxRecDepth 20000 in
theorem comp_ok (h : MSys w m p X A P l d M) (n : Int) (hn1 : -9223372036854775808 ≤ n) (hn2 : n ≤ 9223372036854775807) {t : MtV} (ht : M.T n = some t) (page : Nat) (op : OpV) (next : Nat) (hok : ∀ wx, (recC t n page op next).Ok wx none none) (hmay : mayR (recC t n page op next) = true) (hsz : 1 ≤ (compS t n page op next).size ∧ (compS t n page op next).size ≤ 8192) (h1 : 1 ≤ page) (h2 : page ≤ 2048) {f : FrV} (hf : P.F page = some f) (hfit : f.sh.Fits) (ho : op.Ok) (hc : chkB op = true) {q : SheetV} (hd : ChangeDoes f.sh op 0 q)
    (hq : ({ q with lsn := l.bytes.length + 1 } : SheetV).Fits) (hqn : q.num = page) (hqs : q.slots ≠ []) (hz : P.z ≤ 1000000) (hs : l.starts.length ≤ 10000000) (hr : RisesD t.debts) (hdl : t.debts.length ≤ 1000000) (hx : standN t.debts next = 0 ∨ standN t.debts next < t.debts.length) (hod : owedN t.debts (standN t.debts next) ≤ 9000000) (hk : t.kept ≤ 10000000) (hb : (compS t n page op next).size + 12 + l.bytes.length ≤ 4194304) (hl : l.kept + (((compS t n page op next).size + 12 + compN t next) - t.kept) ≤ 4194304) (hm : (compS t n page op next).size + 12 + compN t next ≤ t.kept ∨ l.kept + (((compS t n page op next).size + 12 + compN t next) - t.kept) + l.bytes.length ≤ 4194304) :
    Calls Tryz.prog 47 #[.pointer (some ⟨m, 0, none⟩), .int .i64 n, .int .u32 page, op.val, .int .u64 next] w fun e w' => e = .returned (.tuple #[.int .u64 ((l.bytes.length + 1 : Nat) : Int), .int .i64 0]) ∧ ∃ A', MSys w' m p X A' (putP P { q with lsn := l.bytes.length + 1 }) (spendL l t (compS t n page op next) (compN t next)) d (M.set n (compT l t (compS t n page op next) next)) ∧ Moves A A' w w' := by
  have HA := hidx (fun (k : Nat) (hk : w.heap.size ≤ k) (x : A k) => by have := h.lt k x; omega : ∀ k, w.heap.size ≤ k → A k → False)
  obtain ⟨W1, HW1⟩ : ∃ W, Hid (W = w.alloc (.cells #[.pointer (some ⟨m, 0, none⟩)] 23)) := ⟨_, rfl⟩
  have b1 : Below w.heap.size w W1 := by rw [HW1.out]; exact (Below.refl _ _).alloc (Nat.le_refl _) _
  have x1 : Blk W1 w.heap.size #[.pointer (some ⟨m, 0, none⟩)] 23 := by rw [HW1.out]; exact Blk.made _ _ _
  have z1 : W1.heap.size = w.heap.size + 1 := by rw [HW1.out]; simp
  obtain ⟨W, HW⟩ : ∃ W, Hid (W = W1.alloc (.cells #[.int .i64 op.kind, .int .i64 op.at', .string op.S, .string op.old] 46)) := ⟨_, rfl⟩
  have b2 : Below W1.heap.size W1 W := by rw [HW.out]; exact (Below.refl _ _).alloc (Nat.le_refl _) _
  have xO : Blk W W1.heap.size #[.int .i64 op.kind, .int .i64 op.at', .string op.S, .string op.old] 46 := by rw [HW.out]; exact Blk.made _ _ _
  have z2 : W.heap.size = w.heap.size + 2 := by rw [HW.out]; simp [z1]
  have xM : Blk W w.heap.size #[.pointer (some ⟨m, 0, none⟩)] 23 := x1.same (b2.block _ x1.lt)
  have bW : Below w.heap.size w W := below_chain b1 b2
  have HFI := hidx (find_yes (h.below bW) n hn1 hn2 ht)
  rw [z1] at xO
  obtain ⟨W2, HW2⟩ : ∃ W', Hid (W' = W.alloc (.cells #[.pointer (some ⟨X n, 0, none⟩)] 97)) := ⟨_, rfl⟩
  have b3 : Below W.heap.size W W2 := by rw [HW2.out]; exact (Below.refl _ _).alloc (Nat.le_refl _) _
  have yM : Blk W2 w.heap.size #[.pointer (some ⟨m, 0, none⟩)] 23 := xM.same (b3.block _ xM.lt)
  have yO : Blk W2 (w.heap.size + 1) #[.int .i64 op.kind, .int .i64 op.at', .string op.S, .string op.old] 46 := xO.same (b3.block _ xO.lt)
  have yT : Blk W2 (w.heap.size + 2) #[.pointer (some ⟨X n, 0, none⟩)] 97 := by rw [HW2.out, ← z2]; exact Blk.made _ _ _
  have bW2 : Below w.heap.size w W2 := below_chain bW b3
  have h2' := h.below bW2
  obtain ⟨S2, hT2, _, _⟩ := h2'.tx ht
  have m0 : W.cell? ⟨w.heap.size, 0, none⟩ = some (.pointer (some ⟨m, 0, none⟩)) := xM.cell 0
  have t2 := hT2.cells.c2
  have o0 : W2.cell? ⟨w.heap.size + 1, 0, none⟩ = some (.int .i64 op.kind) := yO.cell 0
  have o1 : W2.cell? ⟨w.heap.size + 1, 1, none⟩ = some (.int .i64 op.at') := yO.cell 1
  have o2 : W2.cell? ⟨w.heap.size + 1, 2, none⟩ = some (.string op.S) := yO.cell 2
  have o3 : W2.cell? ⟨w.heap.size + 1, 3, none⟩ = some (.string op.old) := yO.cell 3
  have q0 : W2.cell? ⟨w.heap.size + 2, 0, none⟩ = some (.pointer (some ⟨X n, 0, none⟩)) := yT.cell 0
  have HH := hidx h
  have HT := hidx ht
  have HBW := hidx bW2
  have YM := hidx yM
  have YT := hidx yT
  have HZ := hidx z2
  have HRC : Hid ((recC t n page op next).cells none none 0 0 = #[.int .i64 2, .int .i64 n, .int .u64 t.last, .int .u64 next, .int .u32 page, .int .i64 op.kind, .int .i64 op.at', .string op.S, .string op.old, .int .i64 0, .int .i64 0, .string ⟨#[]⟩, .int .u32 0, .int .i64 0, .bool false, .slice none 0 0, .slice none 0 0]) := rfl
  have Khok := hidx hok
  have Khmay := hidx hmay
  have Khsz := hidx hsz
  have Khf := hidx hf
  have Khfit := hidx hfit
  have Kho := hidx ho
  have Khc := hidx hc
  have Khd := hidx hd
  have Khq := hidx hq
  have Khqn := hidx hqn
  have Khqs := hidx hqs
  have Khz := hidx hz
  have Khs := hidx hs
  have Khr := hidx hr
  have Khdl := hidx hdl
  have Khx := hidx hx
  have Khod := hidx hod
  have Khk := hidx hk
  have Khb := hidx hb
  have Khl := hidx hl
  have Khm := hidx hm
  have Kh1 := hidx h1
  have Kh2 := hidx h2
  clear hok hmay hsz hf hfit ho hc hd hq hqn hqs hz hs hr hdl hx hod hk hb hl hm h1 h2
  clear h h2' hT2 b1 b2 b3 x1 xM xO yM yO yT bW bW2 ht
  have HENC : Hid (∀ wx, Calls Tryz.prog 96 #[.agg ((recC t n page op next).cells none none 0 0)] wx fun e w' => e = .returned (.tuple #[.string (compS t n page op next), .int .i64 0]) ∧ Below wx.heap.size wx w') := fun wx => renc_ok (recC t n page op next) none none 0 0 wx (Khok.out wx) Khmay.out ⟨fun i hi => by simp [recC] at hi, fun i hi => by simp [recC] at hi⟩
  obtain ⟨s, Hs⟩ : ∃ s, Hid (compS t n page op next = s) := ⟨_, rfl⟩
  obtain ⟨lf, Hlf⟩ : ∃ lf, Hid (compN t next = lf) := ⟨_, rfl⟩
  unfold compT
  rw [Hs.out] at Khsz Khb Khl Khm HENC ⊢
  rw [Hlf.out] at Khl Khm ⊢
  simp only [OpV.val]
  go_enter Tryz.func47, Tryz.ntmps47
  go_upto_region 1 with fail
  rw [← HW1.out, ← HW.out]
  clear HW HW1
  go_wp2_with fail
  refine HFI.out.mono ?_
  rintro e w2 ⟨rfl, rfl⟩
  clear HFI
  go_upto_region 4 with fail
  rw [← HW2.out]
  clear HW2 z1 z2 m0
  go_cut [14] from 28 to 37 (fun v14 wx => ∃ rb, v14 = .pointer (some ⟨rb, 0, none⟩) ∧ Hid (Below W2.heap.size W2 wx ∧ W2.heap.size ≤ rb ∧ BlkR wx rb ((recC t n page op next).cells none none 0 0) 54))
  case first =>
    have HS6 : Hid (∀ wy, RowKit.Below W2.heap.size W2 wy → wy.cell? ⟨w.heap.size + 1, 0, none⟩ = some (.int .i64 op.kind) ∧ wy.cell? ⟨w.heap.size + 1, 1, none⟩ = some (.int .i64 op.at') ∧ wy.cell? ⟨w.heap.size + 1, 2, none⟩ = some (.string op.S) ∧ wy.cell? ⟨w.heap.size + 1, 3, none⟩ = some (.string op.old) ∧ wy.cell? ⟨w.heap.size + 2, 0, none⟩ = some (.pointer (some ⟨X n, 0, none⟩)) ∧ wy.cell? ⟨X n, 2, none⟩ = some (.int .u64 t.last)) := fun wy by' => ⟨(by'.cell (p := ⟨w.heap.size + 1, 0, none⟩) (World.block_lt_of_cell? _ _ o0)).trans o0, (by'.cell (p := ⟨w.heap.size + 1, 1, none⟩) (World.block_lt_of_cell? _ _ o1)).trans o1, (by'.cell (p := ⟨w.heap.size + 1, 2, none⟩) (World.block_lt_of_cell? _ _ o2)).trans o2, (by'.cell (p := ⟨w.heap.size + 1, 3, none⟩) (World.block_lt_of_cell? _ _ o3)).trans o3, (by'.cell (p := ⟨w.heap.size + 2, 0, none⟩) (World.block_lt_of_cell? _ _ q0)).trans q0, (by'.cell (p := ⟨X n, 2, none⟩) (World.block_lt_of_cell? _ _ t2)).trans t2⟩
    have bD0 : RowKit.Below W2.heap.size W2 W2.drew := (Below.refl _ _).drew
    have bD1 : ∀ o, RowKit.Below W2.heap.size W2 (W2.alloc o).drew := fun o => ((Below.refl _ _).alloc (Nat.le_refl _) o).drew
    clear o0 o1 o2 o3 q0 t2
    go_region_held3 (fun wy => wy.cell? ⟨w.heap.size + 1, 0, none⟩ = some (.int .i64 op.kind) ∧ wy.cell? ⟨w.heap.size + 1, 1, none⟩ = some (.int .i64 op.at') ∧ wy.cell? ⟨w.heap.size + 1, 2, none⟩ = some (.string op.S) ∧ wy.cell? ⟨w.heap.size + 1, 3, none⟩ = some (.string op.old) ∧ wy.cell? ⟨w.heap.size + 2, 0, none⟩ = some (.pointer (some ⟨X n, 0, none⟩)) ∧ wy.cell? ⟨X n, 2, none⟩ = some (.int .u64 t.last)) (first | (refine HS6.out _ ?_; with_reducible exact bD0) | (refine HS6.out _ ?_; with_reducible exact bD1 _)) (fail)
    all_goals
      go_wp2
      go_meet
      case rel =>
        refine ⟨_, rfl, ?_⟩
        exact hidx ⟨bD1 _, Nat.le_refl _, Blk.made _ _ _⟩
  obtain ⟨rb, rfl, H4⟩ := hcut
  clear o0 o1 o2 o3 q0 t2 HRC
  go_upto_region 5 with fail
  refine wp_region_lit ?_
  refine wpList_loadRow rfl _ _ rfl rb rfl ((recC t n page op next).cells none none 0 0) _ (0, 0) H4.out.2.2 _ Tryz.underlying54 rfl (by kernel_rfl) ?_
  go_wp2_with fail
  refine (HENC.out wc).mono ?_
  rintro e w5 ⟨rfl, b5⟩
  obtain ⟨W6, HW6⟩ : ∃ W', Hid (W' = w5.alloc (.cells #[.string s] 9)) := ⟨_, rfl⟩
  have b6 : Below w5.heap.size w5 W6 := by rw [HW6.out]; exact (Below.refl _ _).alloc (Nat.le_refl _) _
  have x6 : Blk W6 w5.heap.size #[.string s] 9 := by rw [HW6.out]; exact Blk.made _ _ _
  have b46 := below_chain b5 b6
  have B6 := hidx (below_chain H4.out.1 b46)
  have X6 := hidx (H4.out.2.2.same (b46.block _ H4.out.2.2.lt))
  have Y6 := hidx x6
  have hrb : W2.heap.size ≤ rb ∧ rb < wc.heap.size ∧ wc.heap.size ≤ w5.heap.size := ⟨H4.out.2.1, H4.out.2.2.lt, b5.size⟩
  have HRB := hidx hrb
  clear b5 b6 x6 b46 hrb H4 HENC
  have t6 : W6.cell? ⟨w.heap.size + 2, 0, none⟩ = some (.pointer (some ⟨X n, 0, none⟩)) := (YT.out.same (B6.out.block _ YT.out.lt)).cell 0
  have s6 : W6.cell? ⟨w5.heap.size, 0, none⟩ = some (.string s) := Y6.out.cell 0
  have B6w := hidx (below_chain HBW.out B6.out)
  obtain ⟨S6, hT6, _, _⟩ := (HH.out.below B6w.out).tx HT.out
  have HPA := hidx (part_zero hT6 Khr.out (by have := Khdl.out; omega) (s.size + 12) next Khx.out)
  have hs2 : s.size ≤ 8192 := Khsz.out.2
  clear hT6
  go_upto_region 8 with fail
  rw [← HW6.out]
  clear HW6
  go_wp2_with fail
  refine HPA.out.mono ?_
  rintro e w7 ⟨rfl, b7⟩
  have B7 := hidx (below_chain B6.out b7)
  have X7 := hidx (X6.out.same (b7.block _ X6.out.lt))
  have Y7 := hidx (Y6.out.same (b7.block _ Y6.out.lt))
  have B7w := hidx (below_chain HBW.out B7.out)
  have H7 := hidx (HH.out.below B7w.out)
  have T7 := hidx (YT.out.same (B7.out.block _ YT.out.lt))
  clear b7 B6 X6 Y6 t6 s6 B6w HPA
  obtain ⟨o, Ho⟩ : ∃ o, Hid (owedN t.debts (standN t.debts next) = o) := ⟨_, rfl⟩
  have HMT : Hid (∀ wx, Below w7.heap.size w7 wx → ∃ S, MtAt S wx (X n) t) := fun wx bx => by
    obtain ⟨S, hT, _, _⟩ := (H7.out.below bx).tx HT.out
    exact ⟨S, hT⟩
  have HOW : Hid (∀ wx, Below w7.heap.size w7 wx → Calls Tryz.prog 40 #[.pointer (some ⟨X n, 0, none⟩), .int .u64 next] wx fun r w' => r = .returned (.int .i64 o) ∧ Below wx.heap.size wx w') := fun wx bx => by
    obtain ⟨S, hT⟩ := HMT.out wx bx
    have := owes_any hT Khr.out (by have := Khdl.out; omega) next
    rw [Ho.out] at this
    exact this
  have HWB : Hid (∀ wx, Below w7.heap.size w7 wx → Calls Tryz.prog 39 #[.pointer (some ⟨X n, 0, none⟩), .int .i64 t.state, .int .i64 o] wx fun r w' => r = .returned (.int .i64 lf) ∧ wx = w') := fun wx bx => by
    obtain ⟨S, hT⟩ := HMT.out wx bx
    have := wayBack_any hT t.state o (by have := Khod.out; rw [Ho.out] at this; omega)
    rw [show wayN t t.state o = lf by rw [← Hlf.out, ← Ho.out]; rfl] at this
    exact this
  have HS9 : Hid (∀ wy, Below w7.heap.size w7 wy → wy.cell? ⟨w.heap.size + 2, 0, none⟩ = some (.pointer (some ⟨X n, 0, none⟩)) ∧ wy.cell? ⟨X n, 1, none⟩ = some (.int .i64 t.state)) := fun wy by' => by
    obtain ⟨S, hT⟩ := HMT.out wy by'
    exact ⟨(T7.out.same (by'.block _ T7.out.lt)).cell 0, hT.cells.c1⟩
  have ho9 : o ≤ 9000000 := by have := Khod.out; rw [Ho.out] at this; exact this
  have hwo : IntKind.i64.wrap (o : Int) = (o : Int) := by rw [IntKind.wrap_i64]; omega
  go_upto_region 9 with fail
  go_cut [17] from 52 to 63 (fun v17 wx => ∃ lb, v17 = .pointer (some ⟨lb, 0, none⟩) ∧ Hid (Below w7.heap.size w7 wx ∧ w7.heap.size ≤ lb ∧ Blk wx lb #[.int .i64 lf] 3))
  case first =>
    have e0 : RowKit.Below w7.heap.size w7 w7.drew := (Below.refl _ _).drew
    have e1 : RowKit.Below w7.heap.size w7 (w7.alloc (.cells #[.int .i64 0] 3)).drew := ((Below.refl _ _).alloc (Nat.le_refl _) _).drew
    have HBX : Hid (∀ wy, RowKit.Below (w7.alloc (.cells #[.int .i64 0] 3)).drew.heap.size (w7.alloc (.cells #[.int .i64 0] 3)).drew wy → Blk wy w7.heap.size #[.int .i64 0] 3) := fun wy by' => by
      have x : Blk (w7.alloc (.cells #[.int .i64 0] 3)).drew w7.heap.size #[.int .i64 0] 3 := Blk.made _ _ _
      exact x.same (by'.block _ x.lt)
    clear HMT
    go_region_held3 (fun wy => wy.cell? ⟨w.heap.size + 2, 0, none⟩ = some (.pointer (some ⟨X n, 0, none⟩)) ∧ wy.cell? ⟨X n, 1, none⟩ = some (.int .i64 t.state)) (first | (refine HS9.out _ ?_; with_reducible exact e0) | (refine HS9.out _ ?_; with_reducible exact e1) | (refine HS9.out _ ?_; with_reducible exact b8) | (refine HS9.out _ ?_; with_reducible exact b8.alloc b8.size _) | (refine HS9.out _ ?_; with_reducible exact b8.setCell (p := ⟨w7.heap.size, 0, none⟩) (Nat.le_refl _) _))
      (first
        | (go_at_call 40; first | (refine (HOW.out _ (by with_reducible exact e0)).mono ?_; rintro r w8 ⟨rfl, b8'⟩; have b8 := below_chain e0 b8') | (refine (HOW.out _ (by with_reducible exact e1)).mono ?_; rintro r w8 ⟨rfl, b8'⟩; have b8 := below_chain e1 b8'; have xL := HBX.out w8 b8'; have g0 := xL.cell 0; have g1 := xL.frozen 0))
        | (go_at_call 39; refine (HWB.out _ (by first | with_reducible exact b8 | with_reducible exact b8.alloc b8.size _)).mono ?_; rintro r w9 ⟨rfl, rfl⟩))
    all_goals
      go_wp2
      go_meet
      case rel =>
        refine ⟨_, rfl, ?_⟩
        first
          | (have := xL; exact hidx ⟨b8.setCell (p := ⟨w7.heap.size, 0, none⟩) (Nat.le_refl _) _, Nat.le_refl _, xL.set 0 _⟩)
          | exact hidx ⟨b8.alloc b8.size _, b8.size, Blk.made _ _ _⟩
  obtain ⟨lb, rfl, H9⟩ := hcut
  clear HOW HWB HS9 HMT hwo ho9
  have BA := hidx (below_chain B7w.out H9.out.1)
  have HA' := hidx (HH.out.below BA.out)
  have hz9 : W2.heap.size ≤ w7.heap.size := B7.out.size
  have xr : BlkR wc rb (refCells (recC t n page op next) (.slice none 0 0) (.slice none 0 0)) 54 := X7.out.same (H9.out.1.block _ X7.out.lt)
  have xs : Blk wc w5.heap.size #[.string s] 9 := Y7.out.same (H9.out.1.block _ Y7.out.lt)
  have xt : Blk wc (w.heap.size + 2) #[.pointer (some ⟨X n, 0, none⟩)] 97 := T7.out.same (H9.out.1.block _ T7.out.lt)
  have xm : Blk wc w.heap.size #[.pointer (some ⟨m, 0, none⟩)] 23 := (YM.out.same (B7.out.block _ YM.out.lt)).same (H9.out.1.block _ (YM.out.same (B7.out.block _ YM.out.lt)).lt)
  have hmf : ∀ (fn : Fn) (first cap : Array Value) (w : World), (Instr.makeFunc fn first cap).run Tryz.prog w = .ok (.func fn first cap) w := fun _ _ _ _ => rfl
  have hlf : lf ≤ 10000000 := by
    rw [← Hlf.out]
    have := Khod.out
    unfold compN wayN
    split
    · split <;> omega
    · omega
  have HCH : Hid (Calls Tryz.prog 108 #[.pointer (some ⟨m, 0, none⟩), .agg ((recC t n page op next).cells none none 0 0), .func (.func 109) #[] #[.pointer (some ⟨w.heap.size, 0, none⟩), .pointer (some ⟨w.heap.size + 2, 0, none⟩), .pointer (some ⟨w5.heap.size, 0, none⟩), .pointer (some ⟨lb, 0, none⟩)]] wc fun e w' => e = .returned (.tuple #[.int .u64 ((l.bytes.length + 1 : Nat) : Int), .int .i64 0]) ∧ ∃ A', MSys w' m p X A' (putP P { q with lsn := l.bytes.length + 1 }) (spendL l t s lf) d (M.set n (spendT l t s lf)) ∧ Moves A A' wc w') := by
    refine tchange_any HA'.out (recC t n page op next) none none 0 0 Kh1.out Kh2.out Khf.out Khfit.out Kho.out Khc.out Khd.out Khq.out Khqn.out Khqs.out Khz.out (by have := Khb.out; omega) 109 _ (spendL l t s lf) (M.set n (spendT l t s lf)) X (fun wx => rfl) (fun wx bx => ?_)
    exact comp1_any (HA'.out.below bx) HT.out w.heap.size (w.heap.size + 2) w5.heap.size lb s lf ((xm.same (bx.block _ xm.lt)).cell 0) ((xt.same (bx.block _ xt.lt)).cell 0) ((xs.same (bx.block _ xs.lt)).cell 0) ((H9.out.2.2.same (bx.block _ H9.out.2.2.lt)).cell 0) Khsz.out.1 Khsz.out.2 hlf Khk.out Khb.out Khs.out Khl.out Khm.out
  have m9 : wc.cell? ⟨w.heap.size, 0, none⟩ = some (.pointer (some ⟨m, 0, none⟩)) := xm.cell 0
  obtain ⟨z0, z1, z2, z3, z4, z5, z6, z7, z8, z9, z10, z11, z12, z13, z14, z15, z16⟩ := out_cells xr
  have XT := hidx xt
  clear xr xs xm xt X7 Y7 T7 H7 B7 hz9 YM YT HRB hlf
  go_upto_region 10 with fail
  go_wp2_with fail
  refine HCH.out.mono ?_
  rintro e w11 ⟨rfl, A11, h11, mv11⟩
  have ho11 : w11.heap[w.heap.size + 2]? = wc.heap[w.heap.size + 2]? := mv11.1.block _ XT.out.lt fun x => HA.out _ (by omega) x
  have xt11 : Blk w11 (w.heap.size + 2) #[.pointer (some ⟨X n, 0, none⟩)] 97 := XT.out.same ho11
  have t11 := xt11.cell 0
  have hA11 : ¬ A11 (w.heap.size + 2) := (mv11.off XT.out.lt fun x => HA.out _ (by omega) x).2
  obtain ⟨S11, hT11, hSA11, step11⟩ := h11.tx (MgG.set_get M n (spendT l t s lf))
  have HGO := hidx (goOn_any hT11 (show RisesD (spendT l t s lf).debts from Khr.out) (by have := Khdl.out; show t.debts.length ≤ _; omega) next)
  have HST := hidx step11
  have HN2 := hidx (fun x => hA11 (hSA11 (w.heap.size + 2) x))
  have XT11 := hidx xt11
  have MV := hidx ((Moves.of_kept (Kept.of_below BA.out) : Moves A A w wc).trans mv11)
  clear z0 z1 z2 z3 z4 z5 z6 z7 z8 z9 z10 z11 z12 z13 z14 z15 z16 hmf HCH h11 mv11 ho11 xt11 hA11 hT11 hSA11 step11 m9 XT
  go_upto_region 13 with fail
  go_wp2_with fail
  refine HGO.out.mono ?_
  rintro e w12 ⟨rfl, hT12, mv12⟩
  obtain ⟨A12, h12, mvA12⟩ := HST.out _ _ _ hT12 rfl mv12
  rw [MgG.set_set] at h12
  have xt12 : Blk w12 (w.heap.size + 2) #[.pointer (some ⟨X n, 0, none⟩)] 97 := XT11.out.same (mv12.1.block _ XT11.out.lt HN2.out)
  have t12 := xt12.cell 0
  have HF := hidx (⟨A12, h12, MV.out.trans mvA12⟩ : ∃ A', MSys w12 m p X A' (putP P { q with lsn := l.bytes.length + 1 }) (spendL l t s lf) d (M.set n { spendT l t s lf with next := next, debts := t.debts.take (standN t.debts next) }) ∧ Moves A A' w w12)
  have HPY := hidx (pay_zero (X n) w12)
  clear hT12 mv12 h12 mvA12 xt12 HGO HST HN2 XT11 MV t11
  go_wp2_with fail
  refine HPY.out.mono ?_
  rintro e w13 ⟨rfl, rfl⟩
  go_wp2
  go_ret2
  exact ⟨rfl, HF.out⟩

end

end Go.Proofs.YtdhphbokkmofaaaGreat
