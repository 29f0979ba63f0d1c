/-
  The walk of (*txn.Manager).mark.
-/
import Derived.Test.YtdhphbokkmofaaaGreatWalRoomJ
import Derived.Test.YtdhphbokkmofaaaGreatRecPutsJ
import Derived.Deep.RegionHeld3
import Derived.Maps.AppendAt
import Derived.Deep.AppendLies
import Derived.BigRegion
import Derived.Deep.RegionLaw
set_option linter.unusedVariables false
set_option linter.unusedSimpArgs false
namespace Go.Proofs.YtdhphbokkmofaaaGreat
open Go.RowKit Go.Sort

theorem xmixed : Tryz.prog.follows .mixedOrders = true := by kernel_rfl

def recM (kind : Int) (tx last : Nat) : RecV := ⟨kind, tx, last, 0, 0, ⟨0, 0, ⟨#[]⟩, ⟨#[]⟩⟩, 0, 0, ⟨#[]⟩, 0, 0, false, [], []⟩

theorem recM_ok (kind : Int) (tx last : Nat) (hk : 4 ≤ kind ∧ kind ≤ 6) (ht : tx ≤ 2147483647) (hl : last < 18446744073709551616) (w : World) : (recM kind tx last).Ok w none none := by
  refine ⟨by simp only [recM]; omega, by simp only [recM]; omega, hl, by simp [recM], by simp [recM], ?_, by simp [recM], by simp [recM], (by show (0 : Nat) ≤ _; omega), by simp [recM], by simp [recM], by simp [recM], by simp [recM], .inl rfl, .inl rfl⟩
  constructor <;> first | (simp [recM]; done) | (show (0 : Nat) ≤ _; omega)

theorem recM_may (kind : Int) (tx last : Nat) (hk : 4 ≤ kind ∧ kind ≤ 6) (ht : tx ≤ 2147483647) : mayR (recM kind tx last) = true := by
  have h1 : changeB (recM kind tx last) = false := by unfold changeB; exact decide_eq_false (by simp only [recM]; omega)
  have h2 : keyB (recM kind tx last) = false := by unfold keyB; exact decide_eq_false (by simp only [recM]; omega)
  have h3 : listsB (recM kind tx last) = false := by unfold listsB; exact decide_eq_false (by simp only [recM]; omega)
  have h4 : nextB (recM kind tx last) = false := by unfold nextB; exact decide_eq_false (by simp only [recM]; omega)
  unfold mayR
  rw [h1, h2, h3]
  have e : namedV (recM kind tx last) = recM kind tx last := by
    unfold namedV
    simp only [h1, h2, h3, h4]
    simp [recM]
  rw [e]
  have : sameR (recM kind tx last) (recM kind tx last) = true := by unfold sameR; simp
  rw [this, decide_eq_true (by simp only [recM]; omega), decide_eq_true (by simp only [recM]; omega)]
  rfl

theorem recM_len (kind : Int) (tx last : Nat) (hk : 4 ≤ kind ∧ kind ≤ 6) : (encR (recM kind tx last)).length = 13 := by
  have h1 : changeB (recM kind tx last) = false := by unfold changeB; exact decide_eq_false (by simp only [recM]; omega)
  have h2 : keyB (recM kind tx last) = false := by unfold keyB; exact decide_eq_false (by simp only [recM]; omega)
  have h3 : listsB (recM kind tx last) = false := by unfold listsB; exact decide_eq_false (by simp only [recM]; omega)
  have h4 : nextB (recM kind tx last) = false := by unfold nextB; exact decide_eq_false (by simp only [recM]; omega)
  unfold encR
  rw [h1, h2, h3, h4]
  simp [putL_length]

def markS (kind : Int) (t : MtV) : ByteArray := ⟨(encR (recM kind t.tx t.last)).toArray⟩

section
variable {w : World} {m p : Nat} {X : Int → Nat} {A : Nat → Prop} {P : PG} {l : LG} {d : DG} {M : MgG}

set_option maxHeartbeats 1600000 in
set_option maxRecDepth 20000 in
theorem mark_any (h : MSys w m p X A P l d M) {n : Int} {t : MtV} (ht : M.T n = some t) (kind : Int) (hkd : 4 ≤ kind ∧ kind ≤ 6) (left : Nat) (htx : t.tx ≤ 2147483647) (hla : t.last < 18446744073709551616) (hr : left ≤ 10000000) (hk : t.kept ≤ 10000000) (hb : 25 + l.bytes.length ≤ 4194304) (hs : l.starts.length ≤ 10000000) (hl : l.kept + ((25 + left) - t.kept) ≤ 4194304) (hm : 25 + left ≤ t.kept ∨ l.kept + ((25 + left) - t.kept) + l.bytes.length ≤ 4194304) :
    Calls Tryz.prog 38 #[.pointer (some ⟨m, 0, none⟩), .pointer (some ⟨X n, 0, none⟩), .int .i64 kind, .int .i64 left] w fun r w' => r = .returned (.tuple #[.int .u64 ((l.bytes.length + 1 : Nat) : Int), .int .i64 0]) ∧ ∃ A', MSys w' m p X A' P (spendL l t (markS kind t) left) d (M.set n (spendT l t (markS kind t) left)) ∧ Moves A A' w w' := by
  have HH := hidx h
  obtain ⟨S, hT, hSA, step⟩ := h.tx ht
  have c0 := hT.cells.c0
  have c2 := hT.cells.c2
  have sz : (markS kind t).size = 13 := by
    show (encR (recM kind t.tx t.last)).toArray.size = 13
    rw [List.size_toArray]; exact recM_len _ _ _ hkd
  have HE : Hid (∀ wx, Calls Tryz.prog 96 #[.agg #[.int .i64 kind, .int .i64 t.tx, .int .u64 t.last, .int .u64 0, .int .u32 0, .int .i64 0, .int .i64 0, .string ⟨#[]⟩, .string ⟨#[]⟩, .int .i64 0, .int .i64 0, .string ⟨#[]⟩, .int .u32 0, .int .i64 0, .bool false, .slice none 0 0, .slice none 0 0]] wx fun e w' => e = .returned (.tuple #[.string (markS kind t), .int .i64 0]) ∧ Below wx.heap.size wx w') := fun wx =>
    renc_ok (recM kind t.tx t.last) none none 0 0 wx (recM_ok _ _ _ hkd htx hla wx) (recM_may _ _ _ hkd htx) ⟨fun i hi => by simp [recM] at hi, fun i hi => by simp [recM] at hi⟩
  have HSP : Hid (∀ wx, MSys wx m p X A P l d M → Calls Tryz.prog 97 #[.pointer (some ⟨m, 0, none⟩), .pointer (some ⟨X n, 0, none⟩), .string (markS kind t), .int .i64 left] wx fun r w' => r = .returned (.tuple #[.int .u64 ((l.bytes.length + 1 : Nat) : Int), .int .i64 0]) ∧ ∃ A', MSys w' m p X A' P (spendL l t (markS kind t) left) d (M.set n (spendT l t (markS kind t) left)) ∧ Moves A A' wx w') := fun wx hx =>
    spend_any hx ht (markS kind t) left (by omega) (by omega) hr hk (by omega) hs (by rw [sz]; exact hl) (by rw [sz]; exact hm)
  have g0 : ∀ dd os, (grow (redrawn w dd) os).cell? ⟨X n, 0, none⟩ = some (.int .i64 t.tx) := fun dd os => ((below_regrown w dd os).cell (p := ⟨X n, 0, none⟩) (World.block_lt_of_cell? _ _ c0)).trans c0
  have g2 : ∀ dd os, (grow (redrawn w dd) os).cell? ⟨X n, 2, none⟩ = some (.int .u64 t.last) := fun dd os => ((below_regrown w dd os).cell (p := ⟨X n, 2, none⟩) (World.block_lt_of_cell? _ _ c2)).trans c2
  generalize markS kind t = s at *
  clear h hT hSA step hl hm ht hr hk hb hs htx hla hkd sz
  have cE : ∀ dd os, Calls Tryz.prog 96 #[.agg #[.int .i64 kind, .int .i64 t.tx, .int .u64 t.last, .int .u64 0, .int .u32 0, .int .i64 0, .int .i64 0, .string ⟨#[]⟩, .string ⟨#[]⟩, .int .i64 0, .int .i64 0, .string ⟨#[]⟩, .int .u32 0, .int .i64 0, .bool false, .slice none 0 0, .slice none 0 0]] (grow (redrawn w dd) os) fun e w'' => e = .returned (.tuple #[.string s, .int .i64 0]) ∧ ∃ p : Regrown, w'' = grow (redrawn w p.d) p.os := fun dd os => Calls.regrown_of (HE.out _)
  go_enter Tryz.func38, Tryz.ntmps38
  go_upto_region 1 with fail
  refine wp_region_quiet_below xmixed (by kernel_rfl) ?_
  iterate 18 (quiet_step (first | (go_at_call 96; exact cE _ _)))
  refine wpQuiet_nil ?_
  intro _ hw'
  obtain ⟨⟨dq, osq⟩, hw''⟩ := hw'
  subst hw''
  have bG := below_regrown w dq osq
  obtain ⟨W8, HW8⟩ : ∃ W8, Hid (W8 = grow (redrawn w dq) osq) := ⟨_, rfl⟩
  simp only
  rw [← HW8.out] at bG ⊢
  have HG := hidx bG
  have H8 := hidx (HH.out.below bG)
  have HC := hidx (HSP.out W8 H8.out)
  clear HW8 bG cE c0 c2 g0 g2 HSP HE
  go_wp2_with fail
  refine HC.out.mono ?_
  rintro r w9 ⟨rfl, A9, h9, m9⟩
  have HF := hidx (⟨A9, h9, (Moves.of_kept (Kept.of_below HG.out)).trans m9⟩ : ∃ A', MSys w9 m p X A' P (spendL l t s left) d (M.set n (spendT l t s left)) ∧ Moves A A' w w9)
  clear h9 m9 HC H8 HG HH
  go_wp2
  go_ret2
  exact ⟨rfl, HF.out⟩

end

end Go.Proofs.YtdhphbokkmofaaaGreat

namespace Go.Proofs.YtdhphbokkmofaaaGreat
open Go.RowKit Go.Sort

def MgG.gone (M : MgG) (n : Int) : MgG := { M with T := fun k => if k = n then none else M.T k, z := M.z - 1 }

theorem MgG.set_gone (M : MgG) (n : Int) (t : MtV) : (M.set n t).gone n = M.gone n := by
  unfold MgG.set MgG.gone
  simp only [MgG.mk.injEq, and_true]
  funext k
  by_cases e : k = n <;> simp [e]

section
variable {w : World} {m tb p : Nat} {dn : Value} {D : DataW Value} {X : Int → Nat} {S : Int → Nat → Prop} {B : Nat → Prop} {M : MgG}

theorem MgAt.gone (h : MgAt w m tb dn D X S B p M) (n : Int) (hn : M.T n ≠ none) (h1 : -9223372036854775808 ≤ n) (h2 : n ≤ 9223372036854775807) (ty : TypeId) :
    ∃ u : World → World, (Builtin.delete_ #[125, 3] ty #[.map (some tb), .int .i64 n]).run Tryz.prog w = .ok (.tuple #[]) (u w) ∧ IsMgr (u w) m B p X (M.gone n) ∧ Moves B B w (u w) := by
  obtain ⟨u, hu⟩ := del_ex 3 125 97 tb (.int .i64 n) ty
  obtain ⟨hrun, hM, ht⟩ := hu w M.z D (xkey n) h.map xKeyed Tryz.underlying125 (xkey_key h1 h2)
  have hk : Kept (fun k => k = tb) w (u w) := mapTurned_kept ht rfl
  have hkb : ∀ k, k < w.heap.size → k ≠ tb → (u w).heap[k]? = w.heap[k]? := fun k hk' hne => hk.block k hk' hne
  have hsz : w.heap.size ≤ (u w).heap.size := hk.size
  have hhas : Maps.has D (xkey n) = true := by
    cases e : M.T n with
    | none => exact absurd e hn
    | some t => exact (h.yes n t e).1
  have hzz : Maps.size (D.del (xkey n)) = M.z - 1 := by
    have := Maps.size_del (h.map.tidy xKeyed) (k := xkey n)
    rw [h.map.2, hhas, if_pos rfl] at this
    omega
  rw [hzz] at hM
  have hne : ∀ k : Int, (if k = n then none else M.T k) ≠ none → k ≠ n ∧ M.T k ≠ none := fun k q => by
    by_cases e : k = n
    · rw [if_pos e] at q; exact absurd rfl q
    · rw [if_neg e] at q; exact ⟨e, q⟩
  refine ⟨u, hrun, ⟨tb, dn, D.del (xkey n), S, ?_⟩, hk.mono (fun k e => e ▸ h.bt), fun k x => .inl x⟩
  refine ⟨h.blk.same (hkb m h.blk.lt h.mt.symm), hM, ?_, ?_, ?_, ownsRow_same h.done fun g e => hkb g (h.lt g (h.bd g e)) fun q => h.dt (q ▸ e), ?_, ?_, h.dm, h.bm, h.bt, h.bd, ?_, fun k x => Nat.lt_of_lt_of_le (h.lt k x) hsz⟩
  · intro k e
    by_cases q : k = n
    · rw [q]; exact Maps.has_del_same
    · simp only [MgG.gone, if_neg q] at e
      rw [Maps.has_del_other (xkey_ne q)]
      exact h.no k e
  · intro k x e
    by_cases q : k = n
    · simp [MgG.gone, q] at e
    · simp only [MgG.gone, if_neg q] at e
      obtain ⟨a1, a2, a3, a4⟩ := h.yes k x e
      have hkn : M.T k ≠ none := by rw [e]; exact Option.some_ne_none x
      exact ⟨by rw [Maps.has_del_other (xkey_ne q)]; exact a1, by rw [getV_del_other (xkey_ne q)]; exact a2, a3.same (fun i hi => hkb i (a3.lt i hi) (h.off k hkn i hi).2.1) hsz, a4⟩
  · intro l hl
    have e : l ≠ xkey n := fun e => by rw [e, Maps.has_del_same] at hl; cases hl
    rw [Maps.has_del_other e] at hl
    obtain ⟨k, e1, e2⟩ := h.keys l hl
    refine ⟨k, e1, ?_⟩
    have : k ≠ n := fun q => e (by rw [e1, q])
    simp only [MgG.gone, if_neg this]
    exact e2
  · intro k k' hkk a b
    exact h.apart k k' hkk (hne k a).2 (hne k' b).2
  · intro k a
    exact h.off k (hne k a).2
  · intro k a
    exact h.bs k (hne k a).2

end

section
variable {w : World} {m p : Nat} {X : Int → Nat} {A : Nat → Prop} {P : PG} {l : LG} {d : DG} {M : MgG}

def endL (l : LG) (t : MtV) : LG := { spendL l t (markS 6 t) 0 with kept := (spendL l t (markS 6 t) 0).kept - (spendT l t (markS 6 t) 0).kept }

set_option maxHeartbeats 1600000 in
set_option maxRecDepth 20000 in
theorem mend_any (h : MSys w m p X A P l d M) {n : Int} (h1 : -9223372036854775808 ≤ n) (h2 : n ≤ 9223372036854775807) {t : MtV} (ht : M.T n = some t) (htx : t.tx ≤ 2147483647) (hla : t.last < 18446744073709551616) (hk : t.kept ≤ 10000000) (hb : 25 + l.bytes.length ≤ 4194304) (hs : l.starts.length ≤ 10000000) (hl : l.kept + (25 - t.kept) ≤ 4194304) (hm : 25 ≤ t.kept ∨ l.kept + (25 - t.kept) + l.bytes.length ≤ 4194304) :
    Calls Tryz.prog 42 #[.pointer (some ⟨m, 0, none⟩), .pointer (some ⟨X n, 0, none⟩)] w fun r w' => r = .returned (.int .i64 0) ∧ ∃ A', MSys w' m p X A' P (endL l t) d (M.gone n) ∧ Moves A A' w w' := by
  have HMK := hidx (mark_any h ht 6 (by omega) 0 htx hla (by omega) hk hb hs hl hm)
  have HTX := hidx htx
  obtain ⟨t1, Ht1⟩ : ∃ q, Hid (spendT l t (markS 6 t) 0 = q) := ⟨_, rfl⟩
  obtain ⟨l1, Hl1⟩ : ∃ q, Hid (spendL l t (markS 6 t) 0 = q) := ⟨_, rfl⟩
  have Hk1 : Hid (t1.kept ≤ 20000000 ∧ l1.kept ≤ 4194304 ∧ (t1.tx : Int) = n) := by
    have hn : (t.tx : Int) = n := by obtain ⟨B, ⟨tb, dn, D, S, hM⟩, _⟩ := h.mgr; exact (hM.yes n t ht).2.2.2
    have sz : (markS 6 t).size = 13 := by
      show (encR (recM 6 t.tx t.last)).toArray.size = 13
      rw [List.size_toArray]; exact recM_len _ _ _ (by omega)
    rw [← Ht1.out, ← Hl1.out]
    refine ⟨?_, ?_, hn⟩
    · show t.kept + ((markS 6 t).size + 12 + 0 - t.kept) - ((markS 6 t).size + 12) ≤ _; rw [sz]; omega
    · show l.kept + ((markS 6 t).size + 12 + 0 - t.kept) - ((markS 6 t).size + 12) ≤ _; rw [sz]; omega
  unfold endL
  rw [Ht1.out, Hl1.out]
  rw [Ht1.out, Hl1.out] at HMK
  clear h ht hl hm hs hb hk htx hla Ht1 Hl1
  go_enter Tryz.func42, Tryz.ntmps42
  go_wp2_with fail
  refine HMK.out.mono ?_
  rintro r w1 ⟨rfl, A1, g1, mv1⟩
  have gd : MSys w1.drew m p X A1 P l1 d (M.set n t1) := g1.same (fun _ _ => rfl) (Nat.le_refl _)
  obtain ⟨S, hT, hSA, _⟩ := gd.tx (MgG.set_get M n t1)
  obtain ⟨L, hL, hLA, lstep⟩ := gd.log
  have c5 : w1.cell? ⟨X n, 5, none⟩ = some (.int .i64 t1.kept) := hT.cells.c5
  have HLG := hidx (mlog_any gd)
  have HG := hidx (give_any hL Hk1.out.2.1 t1.kept (by have := Hk1.out.1; omega))
  have HG' : Hid (Calls Tryz.prog 103 #[.pointer (some ⟨P.lp, 0, none⟩), .int .i64 t1.kept] w1.drew fun e w' => e = .returned (.int .i64 ((l1.kept - t1.kept : Nat) : Int)) ∧ w'.cell? ⟨X n, 5, none⟩ = some (.int .i64 t1.kept) ∧ Hid (∃ A', MSys w' m p X A' P { l1 with kept := l1.kept - t1.kept } d (M.set n t1) ∧ Moves A A' w w')) := by
    refine HG.out.mono ?_
    rintro e w' ⟨rfl, hL', hm'⟩
    obtain ⟨A', g', m'⟩ := lstep w' _ _ hL' rfl hm'
    obtain ⟨S', hT', _, _⟩ := g'.tx (MgG.set_get M n t1)
    refine ⟨rfl, hT'.cells.c5, hidx ⟨A', g', (mv1.kept ((Kept.refl _ _).drew)).trans m'⟩⟩
  clear HG lstep hLA hL hSA hT gd g1 HMK
  go_upto_region 4 with fail
  go_region_held3 (fun wy => wy.cell? ⟨X n, 5, none⟩ = some (.int .i64 t1.kept)) (first | exact c5 | go_keep | assumption)
    (first
      | (go_at_call 56; refine HLG.out.mono ?_; rintro x w3 ⟨rfl, rfl⟩)
      | (go_at_call 103; refine HG'.out.mono ?_; rintro x w4 ⟨rfl, c5', HF⟩))
  obtain ⟨A4, g4, mv4⟩ := HF.out
  clear HF HLG HG' c5 c5' mv1
  have g4d : MSys w4.drew m p X A4 P { l1 with kept := l1.kept - t1.kept } d (M.set n t1) := g4.same (fun _ _ => rfl) (Nat.le_refl _)
  obtain ⟨S4, hT4, _, _⟩ := g4.tx (MgG.set_get M n t1)
  have d0 : w4.cell? ⟨X n, 0, none⟩ = some (.int .i64 n) := by have := hT4.cells.c0; rw [Hk1.out.2.2] at this; exact this
  obtain ⟨B4, ⟨tb, dn, D, Sx, hM4⟩, hB4, mstep⟩ := g4d.mgr
  have d1 : w4.cell? ⟨m, 1, none⟩ = some (.map (some tb)) := hM4.blk.cell 1
  obtain ⟨u, hrun, hM5, mv5⟩ := hM4.gone n (by rw [MgG.set_get]; exact Option.some_ne_none t1) h1 h2 0
  rw [MgG.set_gone] at hM5
  obtain ⟨A5, g5, mv5'⟩ := mstep _ _ _ _ hM5 mv5
  have HF := hidx (⟨A5, g5, (mv4.kept ((Kept.refl _ _).drew)).trans mv5'⟩ : ∃ A', MSys (u w4.drew) m p X A' P { l1 with kept := l1.kept - t1.kept } d (M.gone n) ∧ Moves A A' w (u w4.drew))
  clear g5 mv5' mv5 hM5 mstep hM4 hB4 hT4 g4d g4 mv4
  go_upto_region 5 with fail
  go_still_tail 9, (by kernel_rfl)
  go_wp2
  go_ret
  exact ⟨rfl, HF.out⟩

end

end Go.Proofs.YtdhphbokkmofaaaGreat

namespace Go.Proofs.YtdhphbokkmofaaaGreat
open Go.RowKit Go.Sort

theorem MtAt.putD {S S' : Nat → Prop} {w : World} {b : Nat} {t : MtV} (h : MtAt S w b t) {dv : Value} {L : List DbV} (hd : DebtsAt w dv L) (hs : ∀ g, dv.ownBlock = some g → S' g ∧ g ≠ b) (hb : S' b) (hlt : ∀ k, S' k → k < w.heap.size) : MtAt S' (w.setCell ⟨b, 6, none⟩ dv) b { t with debts := L } := by
  obtain ⟨⟨dv0, h1, h2, h3⟩, h4, h5⟩ := h
  have hk := Kept.setCell S w b 6 dv h4
  refine ⟨⟨dv, h1.set 6 dv, ?_, hs⟩, hb, fun k x => Nat.lt_of_lt_of_le (hlt k x) hk.size⟩
  refine ownsRow_same hd fun g hg => ?_
  have hne := (hs g hg).2
  simp [World.setCell, Array.getElem?_modify, Ne.symm hne]

theorem debts_take : ∀ (L : List DbV) (k : Nat), k ≤ L.length → (L.take k).flatMap DbV.enc = (L.flatMap DbV.enc).take (k * 2)
  | _, 0, _ => by simp
  | [], k + 1, h => by simp at h
  | x :: L, k + 1, h => by
    rw [List.take_succ_cons, List.flatMap_cons, List.flatMap_cons, debts_take L k (by simpa using h), show (k + 1) * 2 = (DbV.enc x).length + k * 2 by simp [DbV.enc]; omega, List.take_length_add_append]

theorem DebtsAt.take {w : World} {g len c : Nat} {L : List DbV} (h : DebtsAt w (.slice (some ⟨g, 0, none⟩) len c) L) (k : Nat) (hk : k ≤ L.length) : DebtsAt w (.slice (some ⟨g, 0, none⟩) k c) (L.take k) := by
  rcases h.2 with ⟨e, q⟩ | ⟨g', cap, cur, e, h1, h2, h3, h4, h5, h6⟩
  · cases e
  · simp only [Value.slice.injEq, Option.some.injEq, Addr.mk.injEq, and_true, true_and] at e
    obtain ⟨rfl, rfl, rfl⟩ := e
    have hl : (L.take k).length = k := by rw [List.length_take]; omega
    have hf := debts_take L k hk
    unfold DebtsAt
    rw [hl, hf]
    refine ⟨by rw [List.length_take, debts_len]; omega, .inr ⟨g, c, cur, rfl, h1, h2, by omega, h4, h5, ?_⟩⟩
    rw [← h6, List.take_take]
    congr 1
    omega

set_option maxHeartbeats 1600000 in
set_option maxRecDepth 20000 in
theorem goOn_any {S : Nat → Prop} {w : World} {b : Nat} {t : MtV} (h : MtAt S w b t) (hr : RisesD t.debts) (hn : t.debts.length ≤ 10000000) (x : Nat) :
    Calls Tryz.prog 110 #[.pointer (some ⟨b, 0, none⟩), .int .u64 x] w fun r w' => r = .returned (.tuple #[]) ∧ MtAt S w' b { t with next := x, debts := t.debts.take (standN t.debts x) } ∧ Moves S S w w' := by
  have c3 := h.cells.c3
  have f3 := h.cells.fr 3
  obtain ⟨h1, m1⟩ := h.put (t' := { t with next := x }) 3 (.int .u64 x) rfl (fun dv => rfl)
  obtain ⟨W, HW⟩ : ∃ W, Hid (W = w.setCell ⟨b, 3, none⟩ (.int .u64 x)) := ⟨_, rfl⟩
  rw [← HW.out] at h1 m1
  have H1 := hidx h1
  have hD : MtAt S W.drew b { t with next := x } := h1.same (fun _ _ => rfl) (Nat.le_refl _)
  have HST := hidx (standing_any hD hr hn x)
  obtain ⟨k, HK⟩ : ∃ k, Hid (standN t.debts x = k) := ⟨_, rfl⟩
  rw [show standN ({ t with next := x } : MtV).debts x = k from HK.out] at HST
  rw [HK.out]
  have hkl : k ≤ t.debts.length := by rw [← HK.out]; exact stand_le _ _
  have f6 := h1.cells.fr 6
  obtain ⟨⟨dv, e1, e2, e3⟩, e4, e5⟩ := h1
  have c6 : W.cell? ⟨b, 6, none⟩ = some dv := e1.cell 6
  have HM := hidx m1
  rcases e2.2 with ⟨e, q⟩ | ⟨g, cap, cur, e, q1, q2, q3, q4, q5, q6⟩
  · have hL : t.debts = [] := by
      cases hh : t.debts with
      | nil => rfl
      | cons y L => rw [hh] at q; simp at q
    subst e
    have hk0 : k = 0 := by rw [hL] at hkl; simpa using hkl
    subst hk0
    rw [show t.debts.take 0 = [] from rfl]
    have c6 : W.cell? ⟨b, 6, none⟩ = some (.slice none 0 0) := c6
    have HF : Hid (∀ wx, Below W.heap.size W wx → MtAt S (wx.setCell ⟨b, 6, none⟩ (.slice none 0 0)) b { t with next := x, debts := [] } ∧ Moves S S w (wx.setCell ⟨b, 6, none⟩ (.slice none 0 0))) := fun wx bx => by
      have hx := H1.out.same (fun i hi => bx.block i (H1.out.lt i hi)) bx.size
      exact ⟨hx.putD (World.ownsRow_nil _ _ _ _ : DebtsAt wx (.slice none 0 0) []) (fun g' hg' => by cases hg') e4 (fun i hi => Nat.lt_of_lt_of_le (e5 i hi) bx.size), (HM.out.trans (Moves.of_kept (Kept.of_below bx))).kept (Kept.setCell _ _ _ _ _ e4)⟩
    have hbl : b < W.heap.size := e5 b e4
    have HST' : Hid (∀ wx, Below W.heap.size W wx → Calls Tryz.prog 99 #[.pointer (some ⟨b, 0, none⟩), .int .u64 x] wx fun r w' => r = .returned (.int .i64 0) ∧ Below wx.heap.size wx w') := fun wx bx => by
      have hx := H1.out.same (fun i hi => bx.block i (H1.out.lt i hi)) bx.size
      have := standing_any hx hr hn x
      rw [show standN ({ t with next := x } : MtV).debts x = 0 from HK.out] at this
      exact this
    have HFR : Hid (∀ wx, Below W.heap.size W wx → wx.frozen? ⟨b, 6, none⟩ = false ∧ wx.cell? ⟨b, 6, none⟩ = some (.slice none 0 0)) := fun wx bx => ⟨(H1.out.same (fun i hi => bx.block i (H1.out.lt i hi)) bx.size).cells.fr 6, (bx.cell (p := ⟨b, 6, none⟩) hbl).trans c6⟩
    have HST2 : Hid (Calls Tryz.prog 99 #[.pointer (some ⟨b, 0, none⟩), .int .u64 x] W.drew fun r w' => r = .returned (.int .i64 0) ∧ w'.cell? ⟨b, 6, none⟩ = some (.slice none 0 0) ∧ w'.frozen? ⟨b, 6, none⟩ = false ∧ Hid (Below W.heap.size W w')) := by
      have bd : Below W.heap.size W W.drew := (Below.refl _ _).drew
      refine (HST'.out W.drew bd).mono ?_
      rintro r w' ⟨rfl, bx⟩
      have bx' : Below W.heap.size W w' := bd.trans bx
      exact ⟨rfl, (HFR.out w' bx').2, (HFR.out w' bx').1, hidx bx'⟩
    clear e1 e2 e3 e5 q m1 hD HST h HK hr H1 HM HST' HFR f6
    go_enter Tryz.func110, Tryz.ntmps110
    go_upto_region 1 with fail
    rw [← HW.out]
    clear HW c3 f3
    go_region_law (go_simp; go_at_call 99; refine HST2.out.mono ?_; rintro r w5 ⟨rfl, c6', f6, b5⟩)
    all_goals
      have HG := hidx (HF.out w5 b5.out)
      clear HF b5
      go_wp2
      go_end0
      exact ⟨rfl, HG.out⟩
  · subst e
    have HF : Hid (∀ wx, Below W.heap.size W wx → MtAt S (wx.setCell ⟨b, 6, none⟩ (.slice (some ⟨g, 0, none⟩) k cap)) b { t with next := x, debts := t.debts.take k } ∧ Moves S S w (wx.setCell ⟨b, 6, none⟩ (.slice (some ⟨g, 0, none⟩) k cap))) := fun wx bx => by
      have hx := H1.out.same (fun i hi => bx.block i (H1.out.lt i hi)) bx.size
      have dx : DebtsAt wx (.slice (some ⟨g, 0, none⟩) t.debts.length cap) t.debts := ownsRow_same e2 fun g' hg' => bx.block g' (e5 g' (e3 g' hg').1)
      exact ⟨hx.putD (dx.take k hkl) (fun g' hg' => e3 g' hg') e4 (fun i hi => Nat.lt_of_lt_of_le (e5 i hi) bx.size), (HM.out.trans (Moves.of_kept (Kept.of_below bx))).kept (Kept.setCell _ _ _ _ _ e4)⟩
    have hk0 : (0 : Int) ≤ (k : Int) := by omega
    have hk1 : (k : Int) ≤ (cap : Int) := by have : t.debts.length ≤ cap := q3; omega
    have hbl : b < W.heap.size := e5 b e4
    have HST' : Hid (∀ wx, Below W.heap.size W wx → Calls Tryz.prog 99 #[.pointer (some ⟨b, 0, none⟩), .int .u64 x] wx fun r w' => r = .returned (.int .i64 k) ∧ Below wx.heap.size wx w') := fun wx bx => by
      have hx := H1.out.same (fun i hi => bx.block i (H1.out.lt i hi)) bx.size
      have := standing_any hx hr hn x
      rw [show standN ({ t with next := x } : MtV).debts x = k from HK.out] at this
      exact this
    have HFR : Hid (∀ wx, Below W.heap.size W wx → wx.frozen? ⟨b, 6, none⟩ = false ∧ wx.cell? ⟨b, 6, none⟩ = some (.slice (some ⟨g, 0, none⟩) t.debts.length cap)) := fun wx bx => ⟨(H1.out.same (fun i hi => bx.block i (H1.out.lt i hi)) bx.size).cells.fr 6, (bx.cell (p := ⟨b, 6, none⟩) hbl).trans c6⟩
    have HST2 : Hid (Calls Tryz.prog 99 #[.pointer (some ⟨b, 0, none⟩), .int .u64 x] W.drew fun r w' => r = .returned (.int .i64 k) ∧ w'.cell? ⟨b, 6, none⟩ = some (.slice (some ⟨g, 0, none⟩) t.debts.length cap) ∧ w'.frozen? ⟨b, 6, none⟩ = false ∧ Hid (Below W.heap.size W w')) := by
      have bd : Below W.heap.size W W.drew := (Below.refl _ _).drew
      refine (HST'.out W.drew bd).mono ?_
      rintro r w' ⟨rfl, bx⟩
      have bx' : Below W.heap.size W w' := bd.trans bx
      exact ⟨rfl, (HFR.out w' bx').2, (HFR.out w' bx').1, hidx bx'⟩
    clear e1 e2 e3 e5 q1 q2 q3 q4 q5 q6 m1 hD HST h HK hr H1 HM HST' HFR f6
    go_enter Tryz.func110, Tryz.ntmps110
    go_upto_region 1 with fail
    rw [← HW.out]
    clear HW c3 f3
    go_region_law (go_simp; go_at_call 99; refine HST2.out.mono ?_; rintro r w5 ⟨rfl, c6', f6, b5⟩)
    all_goals
      have HG := hidx (HF.out w5 b5.out)
      clear HF b5
      go_wp2
      go_end0
      exact ⟨rfl, HG.out⟩

end Go.Proofs.YtdhphbokkmofaaaGreat

namespace Go.Proofs.YtdhphbokkmofaaaGreat
open Go.RowKit Go.Sort

theorem infoDebt : (Tryz.prog.info? 241).map (fun i => (i.zero, i.size, i.bytes)) = some (some (.agg #[.int .u64 0, .int .i64 0]), 2, 16) := by kernel_rfl

set_option maxHeartbeats 1600000 in
set_option maxRecDepth 20000 in
theorem owe_any {S : Nat → Prop} {w : World} {b : Nat} {t : MtV} (h : MtAt S w b t) (hr : RisesD t.debts) (hn : t.debts.length ≤ 1000000) (x room : Nat) (hx : x < 18446744073709551616) (hro : 0 < room) (hrm : room ≤ 100000000) (hod : owedN t.debts (standN t.debts x) ≤ 100000000) :
    Calls Tryz.prog 133 #[.pointer (some ⟨b, 0, none⟩), .int .u64 x, .int .i64 room] w fun r w' => r = .returned (.tuple #[]) ∧ ∃ S', MtAt S' w' b { t with debts := t.debts ++ [⟨x, owedN t.debts (standN t.debts x) + room⟩] } ∧ Moves S S' w w' := by
  have H := hidx h
  obtain ⟨o, HO⟩ : ∃ o, Hid (owedN t.debts (standN t.debts x) = o) := ⟨_, rfl⟩
  have hod' : o ≤ 100000000 := by rw [← HO.out]; exact hod
  have HW : Hid (∀ wx, Below w.heap.size w wx → Calls Tryz.prog 40 #[.pointer (some ⟨b, 0, none⟩), .int .u64 x] wx fun r w' => r = .returned (.int .i64 o) ∧ Below wx.heap.size wx w') := fun wx bx => by
    have := owes_any (H.out.same (fun i hi => bx.block i (H.out.lt i hi)) bx.size) hr (by omega) x
    rw [HO.out] at this
    exact this
  rw [HO.out]
  obtain ⟨⟨dv, e1, e2, e3⟩, e4, e5⟩ := h
  have c6 : w.cell? ⟨b, 6, none⟩ = some dv := e1.cell 6
  have hbl : b < w.heap.size := e5 b e4
  obtain ⟨i0, hi, hz0, hz1, hz2⟩ := info_parts infoDebt
  have HFR : Hid (∀ wx, Below w.heap.size w wx → wx.cell? ⟨b, 6, none⟩ = some dv ∧ wx.frozen? ⟨b, 6, none⟩ = false ∧ wx.ownsRow 0 241 2 dv t.debts.length (t.debts.flatMap DbV.enc)) := fun wx bx =>
    ⟨(bx.cell (p := ⟨b, 6, none⟩) hbl).trans c6, (H.out.same (fun i hi => bx.block i (H.out.lt i hi)) bx.size).cells.fr 6, ownsRow_same e2 fun g hg => bx.block g (e5 g (e3 g hg).1)⟩
  have HF : Hid (∀ wx w2 g cap, Below w.heap.size w wx → w2.ownsRow 0 241 2 (.slice (some ⟨g, 0, none⟩) (t.debts.length + 1) cap) (t.debts.length + 1) (t.debts.flatMap DbV.enc ++ [.int .u64 x, .int .i64 ((o : Int) + (room : Int))]) → wx.grownBy w2 dv.ownBlock → (dv.ownBlock = some g ∨ g = wx.heap.size) → g < w2.heap.size →
      w2.cell? ⟨b, 6, none⟩ = some dv ∧ w2.frozen? ⟨b, 6, none⟩ = false ∧ ∃ S', MtAt S' (w2.setCell ⟨b, 6, none⟩ (.slice (some ⟨g, 0, none⟩) (t.debts.length + 1) cap)) b { t with debts := t.debts ++ [⟨x, o + room⟩] } ∧ Moves S S' w (w2.setCell ⟨b, 6, none⟩ (.slice (some ⟨g, 0, none⟩) (t.debts.length + 1) cap))) := by
    intro wx w2 g cap bx own2 grow2 loc2 lt2
    have kg : Kept (fun k => dv.ownBlock = some k) wx w2 := Kept.of_grown grow2 (fun k e => e)
    have hk : Kept S w w2 := by
      have k1 : Kept S w wx := Kept.of_below bx
      refine ⟨kg.os.trans k1.os, kg.tape.trans k1.tape, kg.output.trans k1.output, Nat.le_trans k1.size kg.size, fun i hi hs => ?_⟩
      exact (kg.block i (Nat.lt_of_lt_of_le hi k1.size) fun e => hs (e3 i e).1).trans (k1.block i hi hs)
    have hbb : w2.heap[b]? = w.heap[b]? := (kg.block b (Nat.lt_of_lt_of_le hbl bx.size) fun e => (e3 b e).2 rfl).trans (bx.block b hbl)
    have e1' : Blk w2 b (t.cells dv) 104 := e1.same hbb
    refine ⟨e1'.cell 6, e1'.frozen 6, fun k => S k ∨ k = g, ?_, (hk.mono fun k y => y).trans (Kept.setCell S w2 b 6 _ e4), ?_⟩
    · have hgb : g ≠ b := by
        rcases loc2 with e | e
        · exact (e3 g e).2
        · have := bx.size; omega
      refine ⟨⟨.slice (some ⟨g, 0, none⟩) (t.debts.length + 1) cap, e1'.set 6 _, ?_, fun g' hg' => ?_⟩, .inl e4, ?_⟩
      · unfold DebtsAt
        rw [List.length_append, List.length_singleton, List.flatMap_append]
        refine ownsRow_same (w := w2) own2 fun g' hg' => ?_
        simp only [Value.ownBlock, Option.some.injEq] at hg'
        subst hg'
        simp [World.setCell, Array.getElem?_modify, Ne.symm hgb]
      · simp only [Value.ownBlock, Option.some.injEq] at hg'
        subst hg'
        exact ⟨.inr rfl, hgb⟩
      · have hs2 : (w2.setCell ⟨b, 6, none⟩ (.slice (some ⟨g, 0, none⟩) (t.debts.length + 1) cap)).heap.size = w2.heap.size := by simp [World.setCell]
        rintro k (y | y)
        · rw [hs2]; exact Nat.lt_of_lt_of_le (e5 k y) hk.size
        · rw [hs2, y]; exact lt2
    · rintro k (y | y)
      · exact .inl y
      · rw [y]
        rcases loc2 with e | e
        · exact .inl (e3 g e).1
        · right; have := bx.size; omega
  have HOW : Hid (Calls Tryz.prog 40 #[.pointer (some ⟨b, 0, none⟩), .int .u64 x] w.drew fun r w' => r = .returned (.int .i64 o) ∧ w'.cell? ⟨b, 6, none⟩ = some dv ∧ w'.frozen? ⟨b, 6, none⟩ = false ∧ (w'.alloc (.cells #[.int .u64 x, .int .i64 ((o : Int) + (room : Int))] 241)).cell? ⟨b, 6, none⟩ = some dv ∧ Hid (Below w.heap.size w w')) := by
    have bd : Below w.heap.size w w.drew := (Below.refl _ _).drew
    refine (HW.out w.drew bd).mono ?_
    rintro r w' ⟨rfl, bx⟩
    have bx' : Below w.heap.size w w' := bd.trans bx
    exact ⟨rfl, (HFR.out w' bx').1, (HFR.out w' bx').2.1, (HFR.out _ (bx'.alloc bx'.size _)).1, hidx bx'⟩
  have H1C : Hid (∀ u ∈ [Value.int .u64 x, Value.int .i64 ((o : Int) + (room : Int))], u.oneCell' = true) := by
    intro u hu; simp at hu; rcases hu with rfl | rfl <;> rfl
  have hr0 : (0 : Int) < (room : Int) := by omega
  have hwr : IntKind.i64.wrap ((o : Int) + (room : Int)) = (o : Int) + (room : Int) := by rw [IntKind.wrap_i64]; omega
  clear HW e1 e2 e3 e5 H hr HO hod
  go_enter Tryz.func133, Tryz.ntmps133
  go_upto_region 1 with fail
  go_region_law (first
    | (go_simp; go_at_call 40; refine HOW.out.mono ?_; rintro r w1 ⟨rfl, c6', f6', c6a, b1⟩)
    | (refine step_append_lies _ (by rfl) _ _ 102 (by rfl) 0 241 i0 _ 2 16 Tryz.underlying102 hi hz0 hz1 hz2 (by rfl) (by decide) dv t.debts.length (t.debts.flatMap DbV.enc) (by rfl) (HFR.out _ (b1.out.alloc b1.out.size _)).2.2 ⟨_, 0, none⟩ 1 1 [.int .u64 x, .int .i64 ((o : Int) + (room : Int))] (by rfl) (by rfl) (World.news_of_block (heap_alloc_new _ _)) H1C.out (by decide) (by unfold maxLen; omega) (by omega) (Nat.zero_le _) _ rfl ?_
       intro g2 cap2 w2 own2 grow2 loc2 lt2
       obtain ⟨c62, f62, HG⟩ := HF.out _ w2 g2 cap2 (b1.out.alloc b1.out.size _) own2 grow2 loc2 lt2
       have HG' := hidx HG
       clear HG own2 grow2 loc2 lt2))
  all_goals
    go_wp2
    go_end0
    exact ⟨rfl, HG'.out⟩

end Go.Proofs.YtdhphbokkmofaaaGreat
