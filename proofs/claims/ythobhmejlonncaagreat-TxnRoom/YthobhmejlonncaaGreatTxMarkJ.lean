/-
  The walk of (*txn.Manager).mark.
  The walk of (*txn.Manager).end.
-/
import Derived.Test.YthobhmejlonncaaGreatTxSpendJ
import Derived.Test.YthobhmejlonncaaGreatRecEncodeC
import Derived.Deep.RegionHeld3
namespace Go.Proofs.YthobhmejlonncaaGreat
open Go.RowKit Go.Sort
set_option linter.unusedVariables false
set_option linter.unusedSimpArgs false

theorem xmixed : Tryz.prog.follows .mixedOrders = true := by kernel_rfl

/-- A record that says nothing but its kind. -/
def recM (kind : Int) (tx last : Nat) : RecV := ⟨kind, tx, last, 0, 0, ⟨0, 0, ⟨#[]⟩, ⟨#[]⟩⟩, 0, 0, ⟨#[]⟩, 0, 0, false, [], []⟩

theorem recM_ok (kind : Int) (tx last : Nat) (hk : 4 ≤ kind ∧ kind ≤ 6) (ht : tx ≤ 2147483647) (hl : last < 18446744073709551616) (w : World) : (recM kind tx last).Ok w none none := by
  refine ⟨by simp only [recM]; omega, by simp only [recM]; omega, hl, by simp [recM], by simp [recM], ?_, by simp [recM], by simp [recM], (by show (0 : Nat) ≤ _; omega), by simp [recM], by simp [recM], by simp [recM], by simp [recM], .inl rfl, .inl rfl⟩
  constructor <;> first | (simp [recM]; done) | (show (0 : Nat) ≤ _; omega)

theorem recM_may (kind : Int) (tx last : Nat) (hk : 4 ≤ kind ∧ kind ≤ 6) (ht : tx ≤ 2147483647) : mayR (recM kind tx last) = true := by
  have h1 : changeB (recM kind tx last) = false := by unfold changeB; exact decide_eq_false (by simp only [recM]; omega)
  have h2 : keyB (recM kind tx last) = false := by unfold keyB; exact decide_eq_false (by simp only [recM]; omega)
  have h3 : listsB (recM kind tx last) = false := by unfold listsB; exact decide_eq_false (by simp only [recM]; omega)
  have h4 : nextB (recM kind tx last) = false := by unfold nextB; exact decide_eq_false (by simp only [recM]; omega)
  unfold mayR
  rw [h1, h2, h3]
  have e : namedV (recM kind tx last) = recM kind tx last := by
    unfold namedV
    simp only [h1, h2, h3, h4]
    simp [recM]
  rw [e]
  have : sameR (recM kind tx last) (recM kind tx last) = true := by unfold sameR; simp
  rw [this, decide_eq_true (by simp only [recM]; omega), decide_eq_true (by simp only [recM]; omega)]
  rfl

theorem recM_len (kind : Int) (tx last : Nat) (hk : 4 ≤ kind ∧ kind ≤ 6) : (encR (recM kind tx last)).length = 13 := by
  have h1 : changeB (recM kind tx last) = false := by unfold changeB; exact decide_eq_false (by simp only [recM]; omega)
  have h2 : keyB (recM kind tx last) = false := by unfold keyB; exact decide_eq_false (by simp only [recM]; omega)
  have h3 : listsB (recM kind tx last) = false := by unfold listsB; exact decide_eq_false (by simp only [recM]; omega)
  have h4 : nextB (recM kind tx last) = false := by unfold nextB; exact decide_eq_false (by simp only [recM]; omega)
  unfold encR
  rw [h1, h2, h3, h4]
  simp [putL_length]

/-- Its bytes. -/
def markS (kind : Int) (t : MtV) : ByteArray := ⟨(encR (recM kind t.tx t.last)).toArray⟩

section
variable {w : World} {m p : Nat} {X : Int → Nat} {A : Nat → Prop} {P : PG} {l : LG} {d : DG} {M : MgG}

set_option maxHeartbeats 1600000 in
set_option maxRecDepth 20000 in
theorem mark_any (h : MSys w m p X A P l d M) {n : Int} {t : MtV} (ht : M.T n = some t) (kind : Int) (hkd : 4 ≤ kind ∧ kind ≤ 6) (left : Nat) (htx : t.tx ≤ 2147483647) (hla : t.last < 18446744073709551616) (hr : left ≤ 10000000) (hk : t.kept ≤ 10000000) (hb : 25 + l.bytes.length ≤ 4194304) (hs : l.starts.length ≤ 10000000) (hl : l.kept + ((25 + left) - t.kept) ≤ 4194304) (hm : 25 + left ≤ t.kept ∨ l.kept + ((25 + left) - t.kept) + l.bytes.length ≤ 4194304) :
    Calls Tryz.prog 46 #[.pointer (some ⟨m, 0, none⟩), .pointer (some ⟨X n, 0, none⟩), .int .i64 kind, .int .i64 left] w fun r w' => r = .returned (.tuple #[.int .u64 ((l.bytes.length + 1 : Nat) : Int), .int .i64 0]) ∧ ∃ A', MSys w' m p X A' P (spendL l t (markS kind t) left) d (M.set n (spendT l t (markS kind t) left)) ∧ Moves A A' w w' := by
  have HH := hidx h
  obtain ⟨S, hT, hSA, step⟩ := h.tx ht
  have c0 := hT.cells.c0
  have c2 := hT.cells.c2
  have sz : (markS kind t).size = 13 := by
    show (encR (recM kind t.tx t.last)).toArray.size = 13
    rw [List.size_toArray]; exact recM_len _ _ _ hkd
  have HE : Hid (∀ wx, Calls Tryz.prog 38 #[.agg #[.int .i64 kind, .int .i64 t.tx, .int .u64 t.last, .int .u64 0, .int .u32 0, .int .i64 0, .int .i64 0, .string ⟨#[]⟩, .string ⟨#[]⟩, .int .i64 0, .int .i64 0, .string ⟨#[]⟩, .int .u32 0, .int .i64 0, .bool false, .slice none 0 0, .slice none 0 0]] wx fun e w' => e = .returned (.tuple #[.string (markS kind t), .int .i64 0]) ∧ Below wx.heap.size wx w') := fun wx =>
    renc_ok (recM kind t.tx t.last) none none 0 0 wx (recM_ok _ _ _ hkd htx hla wx) (recM_may _ _ _ hkd htx) ⟨fun i hi => by simp [recM] at hi, fun i hi => by simp [recM] at hi⟩
  have HSP : Hid (∀ wx, MSys wx m p X A P l d M → Calls Tryz.prog 53 #[.pointer (some ⟨m, 0, none⟩), .pointer (some ⟨X n, 0, none⟩), .string (markS kind t), .int .i64 left] wx fun r w' => r = .returned (.tuple #[.int .u64 ((l.bytes.length + 1 : Nat) : Int), .int .i64 0]) ∧ ∃ A', MSys w' m p X A' P (spendL l t (markS kind t) left) d (M.set n (spendT l t (markS kind t) left)) ∧ Moves A A' wx w') := fun wx hx =>
    spend_any hx ht (markS kind t) left (by omega) (by omega) hr hk (by omega) hs (by rw [sz]; exact hl) (by rw [sz]; exact hm)
  have g0 : ∀ dd os, (grow (redrawn w dd) os).cell? ⟨X n, 0, none⟩ = some (.int .i64 t.tx) := fun dd os => ((below_regrown w dd os).cell (p := ⟨X n, 0, none⟩) (World.block_lt_of_cell? _ _ c0)).trans c0
  have g2 : ∀ dd os, (grow (redrawn w dd) os).cell? ⟨X n, 2, none⟩ = some (.int .u64 t.last) := fun dd os => ((below_regrown w dd os).cell (p := ⟨X n, 2, none⟩) (World.block_lt_of_cell? _ _ c2)).trans c2
  generalize markS kind t = s at *
  clear h hT hSA step hl hm ht hr hk hb hs htx hla hkd sz
  have cE : ∀ dd os, Calls Tryz.prog 38 #[.agg #[.int .i64 kind, .int .i64 t.tx, .int .u64 t.last, .int .u64 0, .int .u32 0, .int .i64 0, .int .i64 0, .string ⟨#[]⟩, .string ⟨#[]⟩, .int .i64 0, .int .i64 0, .string ⟨#[]⟩, .int .u32 0, .int .i64 0, .bool false, .slice none 0 0, .slice none 0 0]] (grow (redrawn w dd) os) fun e w'' => e = .returned (.tuple #[.string s, .int .i64 0]) ∧ ∃ p : Regrown, w'' = grow (redrawn w p.d) p.os := fun dd os => Calls.regrown_of (HE.out _)
  go_enter Tryz.func46, Tryz.ntmps46
  go_upto_region 1 with fail
  refine wp_region_quiet_below xmixed (by kernel_rfl) ?_
  iterate 18 (quiet_step (first | (go_at_call 38; exact cE _ _)))
  refine wpQuiet_nil ?_
  intro _ hw'
  obtain ⟨⟨dq, osq⟩, hw''⟩ := hw'
  subst hw''
  have bG := below_regrown w dq osq
  obtain ⟨W8, HW8⟩ : ∃ W8, Hid (W8 = grow (redrawn w dq) osq) := ⟨_, rfl⟩
  simp only
  rw [← HW8.out] at bG ⊢
  have HG := hidx bG
  have H8 := hidx (HH.out.below bG)
  have HC := hidx (HSP.out W8 H8.out)
  clear HW8 bG cE c0 c2 g0 g2 HSP HE
  go_wp2_with fail
  refine HC.out.mono ?_
  rintro r w9 ⟨rfl, A9, h9, m9⟩
  have HF := hidx (⟨A9, h9, (Moves.of_kept (Kept.of_below HG.out)).trans m9⟩ : ∃ A', MSys w9 m p X A' P (spendL l t s left) d (M.set n (spendT l t s left)) ∧ Moves A A' w w9)
  clear h9 m9 HC H8 HG HH
  go_wp2
  go_ret2
  exact ⟨rfl, HF.out⟩

end

end Go.Proofs.YthobhmejlonncaaGreat

namespace Go.Proofs.YthobhmejlonncaaGreat
open Go.RowKit Go.Sort
set_option linter.unusedVariables false
set_option linter.unusedSimpArgs false

/-- A manager without the transaction n. -/
def MgG.gone (M : MgG) (n : Int) : MgG := { M with T := fun k => if k = n then none else M.T k, z := M.z - 1 }

theorem MgG.set_gone (M : MgG) (n : Int) (t : MtV) : (M.set n t).gone n = M.gone n := by
  unfold MgG.set MgG.gone
  simp only [MgG.mk.injEq, and_true]
  funext k
  by_cases e : k = n <;> simp [e]

section
variable {w : World} {m tb p : Nat} {dn : Value} {D : DataW Value} {X : Int → Nat} {S : Int → Nat → Prop} {B : Nat → Prop} {M : MgG}

theorem MgAt.gone (h : MgAt w m tb dn D X S B p M) (n : Int) (hn : M.T n ≠ none) (h1 : -9223372036854775808 ≤ n) (h2 : n ≤ 9223372036854775807) (ty : TypeId) :
    ∃ u : World → World, (Builtin.delete_ #[87, 3] ty #[.map (some tb), .int .i64 n]).run Tryz.prog w = .ok (.tuple #[]) (u w) ∧ IsMgr (u w) m B p X (M.gone n) ∧ Moves B B w (u w) := by
  obtain ⟨u, hu⟩ := del_ex 3 87 90 tb (.int .i64 n) ty
  obtain ⟨hrun, hM, ht⟩ := hu w M.z D (xkey n) h.map xKeyed Tryz.underlying87 (xkey_key h1 h2)
  have hk : Kept (fun k => k = tb) w (u w) := mapTurned_kept ht rfl
  have hkb : ∀ k, k < w.heap.size → k ≠ tb → (u w).heap[k]? = w.heap[k]? := fun k hk' hne => hk.block k hk' hne
  have hsz : w.heap.size ≤ (u w).heap.size := hk.size
  have hhas : Maps.has D (xkey n) = true := by
    cases e : M.T n with
    | none => exact absurd e hn
    | some t => exact (h.yes n t e).1
  have hzz : Maps.size (D.del (xkey n)) = M.z - 1 := by
    have := Maps.size_del (h.map.tidy xKeyed) (k := xkey n)
    rw [h.map.2, hhas, if_pos rfl] at this
    omega
  rw [hzz] at hM
  have hne : ∀ k : Int, (if k = n then none else M.T k) ≠ none → k ≠ n ∧ M.T k ≠ none := fun k q => by
    by_cases e : k = n
    · rw [if_pos e] at q; exact absurd rfl q
    · rw [if_neg e] at q; exact ⟨e, q⟩
  refine ⟨u, hrun, ⟨tb, dn, D.del (xkey n), S, ?_⟩, hk.mono (fun k e => e ▸ h.bt), fun k x => .inl x⟩
  refine ⟨h.blk.same (hkb m h.blk.lt h.mt.symm), hM, ?_, ?_, ?_, ownsRow_same h.done fun g e => hkb g (h.lt g (h.bd g e)) fun q => h.dt (q ▸ e), ?_, ?_, h.dm, h.bm, h.bt, h.bd, ?_, fun k x => Nat.lt_of_lt_of_le (h.lt k x) hsz⟩
  · intro k e
    by_cases q : k = n
    · rw [q]; exact Maps.has_del_same
    · simp only [MgG.gone, if_neg q] at e
      rw [Maps.has_del_other (xkey_ne q)]
      exact h.no k e
  · intro k x e
    by_cases q : k = n
    · simp [MgG.gone, q] at e
    · simp only [MgG.gone, if_neg q] at e
      obtain ⟨a1, a2, a3, a4⟩ := h.yes k x e
      have hkn : M.T k ≠ none := by rw [e]; exact Option.some_ne_none x
      exact ⟨by rw [Maps.has_del_other (xkey_ne q)]; exact a1, by rw [getV_del_other (xkey_ne q)]; exact a2, a3.same (fun i hi => hkb i (a3.lt i hi) (h.off k hkn i hi).2.1) hsz, a4⟩
  · intro l hl
    have e : l ≠ xkey n := fun e => by rw [e, Maps.has_del_same] at hl; cases hl
    rw [Maps.has_del_other e] at hl
    obtain ⟨k, e1, e2⟩ := h.keys l hl
    refine ⟨k, e1, ?_⟩
    have : k ≠ n := fun q => e (by rw [e1, q])
    simp only [MgG.gone, if_neg this]
    exact e2
  · intro k k' hkk a b
    exact h.apart k k' hkk (hne k a).2 (hne k' b).2
  · intro k a
    exact h.off k (hne k a).2
  · intro k a
    exact h.bs k (hne k a).2

end

section
variable {w : World} {m p : Nat} {X : Int → Nat} {A : Nat → Prop} {P : PG} {l : LG} {d : DG} {M : MgG}

/-- What end makes of the log. -/
def endL (l : LG) (t : MtV) : LG := { spendL l t (markS 6 t) 0 with kept := (spendL l t (markS 6 t) 0).kept - (spendT l t (markS 6 t) 0).kept }

set_option maxHeartbeats 1600000 in
set_option maxRecDepth 20000 in
theorem mend_any (h : MSys w m p X A P l d M) {n : Int} (h1 : -9223372036854775808 ≤ n) (h2 : n ≤ 9223372036854775807) {t : MtV} (ht : M.T n = some t) (htx : t.tx ≤ 2147483647) (hla : t.last < 18446744073709551616) (hk : t.kept ≤ 10000000) (hb : 25 + l.bytes.length ≤ 4194304) (hs : l.starts.length ≤ 10000000) (hl : l.kept + (25 - t.kept) ≤ 4194304) (hm : 25 ≤ t.kept ∨ l.kept + (25 - t.kept) + l.bytes.length ≤ 4194304) :
    Calls Tryz.prog 49 #[.pointer (some ⟨m, 0, none⟩), .pointer (some ⟨X n, 0, none⟩)] w fun r w' => r = .returned (.int .i64 0) ∧ ∃ A', MSys w' m p X A' P (endL l t) d (M.gone n) ∧ Moves A A' w w' := by
  have HMK := hidx (mark_any h ht 6 (by omega) 0 htx hla (by omega) hk hb hs hl hm)
  have HTX := hidx htx
  obtain ⟨t1, Ht1⟩ : ∃ q, Hid (spendT l t (markS 6 t) 0 = q) := ⟨_, rfl⟩
  obtain ⟨l1, Hl1⟩ : ∃ q, Hid (spendL l t (markS 6 t) 0 = q) := ⟨_, rfl⟩
  have Hk1 : Hid (t1.kept ≤ 20000000 ∧ l1.kept ≤ 4194304 ∧ (t1.tx : Int) = n) := by
    have hn : (t.tx : Int) = n := by obtain ⟨B, ⟨tb, dn, D, S, hM⟩, _⟩ := h.mgr; exact (hM.yes n t ht).2.2.2
    have sz : (markS 6 t).size = 13 := by
      show (encR (recM 6 t.tx t.last)).toArray.size = 13
      rw [List.size_toArray]; exact recM_len _ _ _ (by omega)
    rw [← Ht1.out, ← Hl1.out]
    refine ⟨?_, ?_, hn⟩
    · show t.kept + ((markS 6 t).size + 12 + 0 - t.kept) - ((markS 6 t).size + 12) ≤ _; rw [sz]; omega
    · show l.kept + ((markS 6 t).size + 12 + 0 - t.kept) - ((markS 6 t).size + 12) ≤ _; rw [sz]; omega
  unfold endL
  rw [Ht1.out, Hl1.out]
  rw [Ht1.out, Hl1.out] at HMK
  clear h ht hl hm hs hb hk htx hla Ht1 Hl1
  go_enter Tryz.func49, Tryz.ntmps49
  go_wp2_with fail
  refine HMK.out.mono ?_
  rintro r w1 ⟨rfl, A1, g1, mv1⟩
  have gd : MSys w1.drew m p X A1 P l1 d (M.set n t1) := g1.same (fun _ _ => rfl) (Nat.le_refl _)
  obtain ⟨S, hT, hSA, _⟩ := gd.tx (MgG.set_get M n t1)
  obtain ⟨L, hL, hLA, lstep⟩ := gd.log
  have c5 : w1.cell? ⟨X n, 5, none⟩ = some (.int .i64 t1.kept) := hT.cells.c5
  have HLG := hidx (mlog_any gd)
  have HG := hidx (give_any hL Hk1.out.2.1 t1.kept (by have := Hk1.out.1; omega))
  have HG' : Hid (Calls Tryz.prog 43 #[.pointer (some ⟨P.lp, 0, none⟩), .int .i64 t1.kept] w1.drew fun e w' => e = .returned (.int .i64 ((l1.kept - t1.kept : Nat) : Int)) ∧ w'.cell? ⟨X n, 5, none⟩ = some (.int .i64 t1.kept) ∧ Hid (∃ A', MSys w' m p X A' P { l1 with kept := l1.kept - t1.kept } d (M.set n t1) ∧ Moves A A' w w')) := by
    refine HG.out.mono ?_
    rintro e w' ⟨rfl, hL', hm'⟩
    obtain ⟨A', g', m'⟩ := lstep w' _ _ hL' rfl hm'
    obtain ⟨S', hT', _, _⟩ := g'.tx (MgG.set_get M n t1)
    refine ⟨rfl, hT'.cells.c5, hidx ⟨A', g', (mv1.kept ((Kept.refl _ _).drew)).trans m'⟩⟩
  clear HG lstep hLA hL hSA hT gd g1 HMK
  go_upto_region 4 with fail
  go_region_held3 (fun wy => wy.cell? ⟨X n, 5, none⟩ = some (.int .i64 t1.kept)) (first | exact c5 | go_keep | assumption)
    (first
      | (go_at_call 35; refine HLG.out.mono ?_; rintro x w3 ⟨rfl, rfl⟩)
      | (go_at_call 43; refine HG'.out.mono ?_; rintro x w4 ⟨rfl, c5', HF⟩))
  obtain ⟨A4, g4, mv4⟩ := HF.out
  clear HF HLG HG' c5 c5' mv1
  have g4d : MSys w4.drew m p X A4 P { l1 with kept := l1.kept - t1.kept } d (M.set n t1) := g4.same (fun _ _ => rfl) (Nat.le_refl _)
  obtain ⟨S4, hT4, _, _⟩ := g4.tx (MgG.set_get M n t1)
  have d0 : w4.cell? ⟨X n, 0, none⟩ = some (.int .i64 n) := by have := hT4.cells.c0; rw [Hk1.out.2.2] at this; exact this
  obtain ⟨B4, ⟨tb, dn, D, Sx, hM4⟩, hB4, mstep⟩ := g4d.mgr
  have d1 : w4.cell? ⟨m, 1, none⟩ = some (.map (some tb)) := hM4.blk.cell 1
  obtain ⟨u, hrun, hM5, mv5⟩ := hM4.gone n (by rw [MgG.set_get]; exact Option.some_ne_none t1) h1 h2 0
  rw [MgG.set_gone] at hM5
  obtain ⟨A5, g5, mv5'⟩ := mstep _ _ _ _ hM5 mv5
  have HF := hidx (⟨A5, g5, (mv4.kept ((Kept.refl _ _).drew)).trans mv5'⟩ : ∃ A', MSys (u w4.drew) m p X A' P { l1 with kept := l1.kept - t1.kept } d (M.gone n) ∧ Moves A A' w (u w4.drew))
  clear g5 mv5' mv5 hM5 mstep hM4 hB4 hT4 g4d g4 mv4
  go_upto_region 5 with fail
  go_still_tail 9, (by kernel_rfl)
  go_wp2
  go_ret
  exact ⟨rfl, HF.out⟩

end

end Go.Proofs.YthobhmejlonncaaGreat
