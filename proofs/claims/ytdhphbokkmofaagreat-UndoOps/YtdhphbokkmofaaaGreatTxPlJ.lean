/-
  Changes without a key (by their page and their operation alone): their records, what takes them back; a transaction behind a change that is not taken back.
-/
import Derived.Test.YtdhphbokkmofaaaGreatTxGJ
import Derived.Test.YtdhphbokkmofaaaGreatBackMathJ
import Derived.StillTailTactics
import Derived.Test.YtdhphbokkmofaaaGreatPageApplyJ
import Derived.Test.YtdhphbokkmofaaaGreatPageSetJ
import Derived.Test.YtdhphbokkmofaaaGreatTxChg0J
import Derived.Test.YtdhphbokkmofaaaGreatSpaceBitsJ
import Derived.Test.YtdhphbokkmofaaaGreatNilMathJ
import Derived.Test.YtdhphbokkmofaaaGreatTxPartJ
import Derived.Test.YtdhphbokkmofaaaGreatWalRoomJ
import Derived.Test.YtdhphbokkmofaaaGreatPoolReadJ
set_option linter.unusedVariables false
set_option linter.unusedSimpArgs false
namespace Go.Proofs.YtdhphbokkmofaaaGreat
open Go.RowKit Go.Sort

def chgP (pg : Nat) (o : OpV) (u : Int) : ChgV := ⟨pg, o, u, 0, ⟨#[]⟩, 0, 0, false⟩

section
variable {n pg last : Nat} {o : OpV} {u : Int}

theorem chgP_may (hn : n ≤ 2147483647) (hp : pg ≠ 0) (hc : chkB o = true) (hu : u = 0 ∨ u = 1) : mayR (recN n last (chgP pg o u)) = true := by
  have k1 : changeB (recN n last (chgP pg o u)) = true := rfl
  have k2 : keyB (recN n last (chgP pg o u)) = false := by rcases hu with rfl | rfl <;> rfl
  have k3 : listsB (recN n last (chgP pg o u)) = false := rfl
  have e : namedV (recN n last (chgP pg o u)) = recN n last (chgP pg o u) := by
    unfold namedV
    rw [k1, k2, k3]
    rfl
  have k4 : cmayB (recN n last (chgP pg o u)) = true := by
    unfold cmayB
    rw [decide_eq_true (show (recN n last (chgP pg o u)).page ≠ 0 from hp), show chkB (recN n last (chgP pg o u)).op = true from hc, if_neg (show (recN n last (chgP pg o u)).kind ≠ 2 from by show (1 : Int) ≠ 2; decide), decide_eq_true (show 0 ≤ (recN n last (chgP pg o u)).undo ∧ (recN n last (chgP pg o u)).undo ≤ 2 from by show 0 ≤ u ∧ u ≤ 2; omega)]
    rfl
  unfold mayR
  rw [e, sameR_self, k1, k2, k3, k4, decide_eq_true (show 1 ≤ (recN n last (chgP pg o u)).kind ∧ (recN n last (chgP pg o u)).kind ≤ 8 from ⟨by show (1 : Int) ≤ 1; decide, by show (1 : Int) ≤ 8; decide⟩), decide_eq_true (show 0 ≤ (recN n last (chgP pg o u)).tx ∧ (recN n last (chgP pg o u)).tx ≤ 2147483647 from ⟨by show (0 : Int) ≤ (n : Int); omega, by show (n : Int) ≤ 2147483647; omega⟩)]
  rfl

theorem chgP_len (hS : o.S.size ≤ 512) (hT : o.old.size ≤ 512) (hu : u = 0 ∨ u = 1) : (encR (recN n last (chgP pg o u))).length = 25 + o.S.size + o.old.size := by
  have k1 : changeB (recN n last (chgP pg o u)) = true := rfl
  have k2 : keyB (recN n last (chgP pg o u)) = false := by rcases hu with rfl | rfl <;> rfl
  have k3 : listsB (recN n last (chgP pg o u)) = false := rfl
  have k4 : nextB (recN n last (chgP pg o u)) = false := rfl
  unfold encR changeL
  rw [k1, k2, k3, k4]
  simp only [List.length_append, putL_length, Bool.false_eq_true, if_false, if_true, List.length_nil]
  rw [show (recN n last (chgP pg o u)).op.S = o.S from rfl, show (recN n last (chgP pg o u)).op.old = o.old from rfl, text_len _ (by omega), text_len _ (by omega)]
  omega

theorem chgP_ok (hn : n ≤ 2147483647) (h1 : 1 ≤ pg) (h2 : pg ≤ 2048) (ho : o.Ok) (hc : chkB o = true) (hl : last < 18446744073709551616) (hu : u = 0 ∨ u = 1) : RecOk n (recN n last (chgP pg o u)) := by
  obtain ⟨hS, hT, _⟩ := chk_parts hc
  refine ⟨chgP_may hn (by omega) hc hu, ⟨fun i hi => by simp [recN] at hi, fun i hi => by simp [recN] at hi⟩, hl, by show (0 : Nat) < _; omega, by show pg < _; omega, by show (0 : Nat) < _; omega, by rw [chgP_len hS hT hu]; omega, fun wx ta da ht hd => ?_, rfl⟩
  refine ⟨by show (-9223372036854775808 : Int) ≤ 1 ∧ (1 : Int) ≤ _; omega, by show (-9223372036854775808 : Int) ≤ (n : Int) ∧ (n : Int) ≤ _; omega, hl, by show (0 : Nat) < _; omega, by show pg < _; omega, ho, by show (-9223372036854775808 : Int) ≤ u ∧ u ≤ _; omega, by show (-9223372036854775808 : Int) ≤ 0 ∧ (0 : Int) ≤ _; omega, by show (0 : Nat) ≤ _; omega, by show (0 : Nat) < _; omega, by show (-9223372036854775808 : Int) ≤ 0 ∧ (0 : Int) ≤ _; omega, by simp [recN], by simp [recN], ht, hd⟩

theorem recCi_may {t : MtV} {inv : OpV} {next : Nat} (hn : n ≤ 2147483647) (hp : pg ≠ 0) (hc : chkB inv = true) : mayR (recC t n pg inv next) = true := by
  have e : namedV (recC t n pg inv next) = recC t n pg inv next := rfl
  have k1 : changeB (recC t n pg inv next) = true := rfl
  have k2 : keyB (recC t n pg inv next) = false := rfl
  have k3 : listsB (recC t n pg inv next) = false := rfl
  have k4 : cmayB (recC t n pg inv next) = true := by
    unfold cmayB
    rw [decide_eq_true (show (recC t n pg inv next).page ≠ 0 from hp), show chkB (recC t n pg inv next).op = true from hc]
    rfl
  unfold mayR
  rw [e, sameR_self, k1, k2, k3, k4, decide_eq_true (show 1 ≤ (recC t n pg inv next).kind ∧ (recC t n pg inv next).kind ≤ 8 from ⟨by show (1 : Int) ≤ 2; decide, by show (2 : Int) ≤ 8; decide⟩), decide_eq_true (show 0 ≤ (recC t n pg inv next).tx ∧ (recC t n pg inv next).tx ≤ 2147483647 from ⟨by show (0 : Int) ≤ (n : Int); omega, by show (n : Int) ≤ 2147483647; omega⟩)]
  rfl

theorem recCi_len {t : MtV} {inv : OpV} {next : Nat} (h1 : inv.S.size ≤ 512) (h2 : inv.old.size ≤ 512) : (encR (recC t n pg inv next)).length = 33 + inv.S.size + inv.old.size := by
  have k1 : changeB (recC t n pg inv next) = true := rfl
  have k2 : keyB (recC t n pg inv next) = false := rfl
  have k3 : listsB (recC t n pg inv next) = false := rfl
  have k4 : nextB (recC t n pg inv next) = true := rfl
  unfold encR changeL
  rw [k1, k2, k3, k4]
  simp only [List.length_append, putL_length, Bool.false_eq_true, if_false, if_true, List.length_nil]
  rw [show (recC t n pg inv next).op.S = inv.S from rfl, show (recC t n pg inv next).op.old = inv.old from rfl, text_len _ (by omega), text_len _ (by omega)]
  omega

theorem chgP_up {inv : OpV} {pl : Nat} (hn : n ≤ 2147483647) (h1 : 1 ≤ pg) (h2 : pg ≤ 2048) (ho : o.Ok) (hc : chkB o = true) (hi : inv.Ok) (hic : chkB inv = true) (hsz : inv.S.size + inv.old.size ≤ o.S.size + o.old.size) (hl : last < 18446744073709551616) : UpOk n ⟨⟨pl, o.S, o.old⟩, recN n last (chgP pg o 1), inv⟩ := by
  obtain ⟨hS, hT, _⟩ := chk_parts hc
  obtain ⟨iS, iT, _⟩ := chk_parts hic
  refine ⟨rfl, by show (1 : Int) ≠ 0; decide, chgP_ok hn h1 h2 ho hc hl (.inr rfl), ⟨h1, h2⟩, by show o.S.size + o.old.size + 25 = _; rw [chgP_len hS hT (.inr rfl)]; omega, ho, hi, hic, fun t next ht hx => ?_, fun t next => ?_⟩
  · refine ⟨recCi_may (pg := pg) hn (show pg ≠ 0 by omega) hic, ⟨fun i hi => by simp [recC] at hi, fun i hi => by simp [recC] at hi⟩, ht, hx, by show pg < _; omega, by show (0 : Nat) < _; omega, by rw [show (⟨⟨pl, o.S, o.old⟩, recN n last (chgP pg o 1), inv⟩ : UpN).r.page = pg from rfl]; show (encR (recC t n pg inv next)).length ≤ _; rw [recCi_len iS iT]; omega, fun wx ta da a b => ?_, rfl⟩
    exact ⟨by show (-9223372036854775808 : Int) ≤ 2 ∧ (2 : Int) ≤ _; omega, by show (-9223372036854775808 : Int) ≤ (n : Int) ∧ (n : Int) ≤ _; omega, ht, hx, by show pg < _; omega, hi, by show (-9223372036854775808 : Int) ≤ 0 ∧ (0 : Int) ≤ _; omega, by show (-9223372036854775808 : Int) ≤ 0 ∧ (0 : Int) ≤ _; omega, by show (0 : Nat) ≤ _; omega, by show (0 : Nat) < _; omega, by show (-9223372036854775808 : Int) ≤ 0 ∧ (0 : Int) ≤ _; omega, by simp [recC], by simp [recC], a, b⟩
  · have e : (compS t n pg inv next).size = 33 + inv.S.size + inv.old.size := by
      show (encR _).toArray.size = _
      rw [List.size_toArray]
      exact recCi_len iS iT
    show 1 ≤ (compS t n pg inv next).size ∧ (compS t n pg inv next).size + 12 ≤ 197 + o.S.size + o.old.size
    rw [e]
    omega

end

theorem TxN.none {rs : List ByteArray} {l : LG} {t : MtV} {n : Nat} {L : List UpN} {c : ChgV} (h : TxN rs l.bytes.length t n L) (hR : RecsAt l rs) (hu : c.undo = 0) (hok : RecOk n (recN n t.last c)) {b' : Nat} (hb' : l.bytes.length + 1 ≤ b') :
    TxN (rs ++ [logS t c]) b' { t with last := l.bytes.length + 1, next := l.bytes.length + 1 } n L := by
  have e : logS t c = ⟨(encR (recN n t.last c)).toArray⟩ := by
    show ByteArray.mk (encR (recU t c)).toArray = _
    rw [recU_eq h.tx]
  have hin : RecIn (rs ++ [logS t c]) (l.bytes.length + 1) (recN n t.last c) := by rw [e]; exact RecIn.last hR _
  have hla := h.last
  have hch : GChainN (rs ++ [logS t c]) n (l.bytes.length + 1) L := GChainN.over (a := t.last) hin hok (fun q => q.2 hu) rfl (by omega) (h.lchain.snoc _)
  exact ⟨hch, hch, h.tx, h.debts, h.kept, hb', hb', h.begun, h.nn⟩

end Go.Proofs.YtdhphbokkmofaaaGreat

namespace Go.Proofs.YtdhphbokkmofaaaGreat
open Go.RowKit Go.Sort

theorem hido {p : Prop} (h : p) : Hid p := h

def ChangeDoesO (p : SheetV) (o : OpV) (E : Int) (q : SheetV) : Prop :=
  ∀ B w b bs, SheetAt B w b bs p → Calls Tryz.prog 116 #[.pointer (some ⟨b, 0, none⟩), o.val] w fun e w' => e = .returned (.int .i64 E) ∧ Below B w w' ∧
    (E = 0 → ∃ a' c', RowV w' b 5 (five (.int .u32 q.num) (.int .u64 q.lsn) (.int .i64 q.kind) (.string q.head) (.slice a' q.slots.length c')) ∧ StrsNot B b w' a' q.slots ∧ (∀ g k, a' = some ⟨g, k, none⟩ → B ≤ g ∧ g < w'.heap.size ∧ g ≠ b))

def ofmtQ (p : SheetV) (o : OpV) : SheetV := ⟨p.num, 0, o.at', o.S, []⟩

set_option maxHeartbeats 1600000 in
set_option maxRecDepth 20000 in
theorem change_fmtO {p : SheetV} {o : OpV} (ho : o.Ok) (hk : o.kind = 1) : ChangeDoesO p o 0 (ofmtQ p o) := by
  intro B w b bs h
  have hb1 := h.b1
  have hlt := h.lt
  obtain ⟨K, A, S, T⟩ := o
  simp only at hk ⊢
  subst hk
  unfold ofmtQ
  simp only [OpV.val]
  obtain ⟨W, HW⟩ : ∃ W, Hid (W = w.alloc (.cells #[.int .i64 1, .int .i64 A, .string S, .string T] 46)) := ⟨_, rfl⟩
  have bW : Below w.heap.size w W := by rw [HW.out]; exact (Below.refl _ _).alloc (Nat.le_refl _) _
  have h1 := h.below bW
  have r1 : RowV W w.heap.size 4 (four (.int .i64 1) (.int .i64 A) (.string S) (.string T)) := by rw [HW.out]; exact RowV.four_new w _ _ _ _ _
  obtain ⟨x0, x1, x2, x3, x4⟩ := h1.row.cells5
  obtain ⟨g0, g1, g2, g3, g4⟩ := h1.row.open5
  obtain ⟨y0, y1, y2, y3⟩ := r1.cells4
  have bB : Below B w W := bW.mono (by omega)
  have hbo : b ≠ w.heap.size := by omega
  go_enter Tryz.func116, Tryz.ntmps116
  go_wp2_with fail
  rw [← HW.out]
  clear HW
  go_still_tail 11, (by kernel_rfl)
  change wpList _ _ _ _ _ W.drew
  have h2 : SheetAt B W.drew b bs p := h1.below ((Below.refl _ _).drew)
  have B2 : Below B w W.drew := bB.drew
  obtain ⟨V, HV⟩ : ∃ V, Hid (V = W.drew) := ⟨_, rfl⟩
  rw [← HV.out] at h2 B2 ⊢
  clear HV h1 x0 x1 x2 x3 x4 g0 g1 g2 g3 g4 y0 y1 y2 y3 r1 bB bW
  obtain ⟨x0, x1, x2, x3, x4⟩ := h2.row.cells5
  obtain ⟨g0, g1, g2, g3, g4⟩ := h2.row.open5
  go_wp2
  go_ret
  refine ⟨rfl, below_set5 B2 hb1 _ _ _ _ _, fun _ => ⟨none, 0, h2.row.set5 _ _ _ _ _, .inl rfl, fun g k e => by cases e⟩⟩

section
variable {w : World} {p q : SheetV} {o : OpV} {a : Option Addr} {c : Nat} {E : Int}

set_option maxHeartbeats 3200000 in
set_option maxRecDepth 60000 in
theorem apply_ofO (lsn : Nat) (h : p.Ok w a) (f : p.Fits) (ho : o.Ok) (hc : chkB o = true) (hd : ChangeDoesO p o E q) :
    Calls Tryz.prog 52 #[p.val a c, o.val, .int .u64 lsn] w fun e w' => ∃ X, e = .returned (.tuple #[X, .int .i64 E]) ∧ Below w.heap.size w w' ∧
      (E = 0 → ∃ a' c', X = ({ q with lsn := lsn } : SheetV).val a' c' ∧ StrsFrom w.heap.size w' a' q.slots ∧ (∀ g k, a' = some ⟨g, k, none⟩ → w.heap.size ≤ g ∧ g < w'.heap.size)) ∧ (E ≠ 0 → X = sheet0.val none 0) := by
  have HCK : Hid (∀ wx, Calls Tryz.prog 114 #[o.val] wx fun e w' => e = .returned (.int .i64 0) ∧ Below wx.heap.size wx w') := fun wx => by
    have := check_any o wx ho
    rw [show chkE o = 0 from by unfold chkE; rw [hc]; rfl] at this
    exact this
  have HCP : Hid (∀ wx, Below w.heap.size w wx → Calls Tryz.prog 115 #[p.val a c] wx fun e w' => ∃ b, e = .returned (p.val (some ⟨b, 0, none⟩) p.slots.length) ∧ wx.heap.size < b ∧ b < w'.heap.size ∧ RowV w' b p.slots.length (fun j => .string (p.slots.getD j ByteArray.empty)) ∧ Below wx.heap.size wx w') := fun wx hb => copyOf_any p a c wx (h.below hb)
  have HCO : Hid (∀ wx, Calls Tryz.prog 104 #[o.val] wx fun e w' => e = .returned o.val ∧ Below wx.heap.size wx w') := fun wx => copyOfOp_any o wx ho
  have HCH : Hid (ChangeDoesO p o E q) := hd
  clear hd
  unfold ChangeDoesO at HCH
  simp only [SheetV.val, OpV.val] at HCK HCP HCO HCH ⊢
  obtain ⟨W, HW⟩ : ∃ W, Hid (W = ((w.alloc (.cells #[.int .u32 p.num, .int .u64 p.lsn, .int .i64 p.kind, .string p.head, .slice a p.slots.length c] 44)).alloc (.cells #[.int .i64 o.kind, .int .i64 o.at', .string o.S, .string o.old] 46)).alloc (.cells #[.int .u32 0, .int .u64 0, .int .i64 0, .string ⟨#[]⟩, .slice none 0 0] 44)) := ⟨_, rfl⟩
  have hA : ApplyAt w W p o a c := by
    rw [HW.out]
    refine ⟨((RowV.five_new w _ _ _ _ _ _).below ((Below.refl _ _).alloc (Nat.le_refl _) _) (by simp)).below ((Below.refl _ _).alloc (Nat.le_refl _) _) (by simp; omega), ?_, ?_, (((Below.refl _ _).alloc (Nat.le_refl _) _).alloc (by simp) _).alloc (by simp; omega) _, by simp⟩
    · have := (RowV.four_new (w.alloc (.cells #[.int .u32 p.num, .int .u64 p.lsn, .int .i64 p.kind, .string p.head, .slice a p.slots.length c] 44)) (.int .i64 o.kind) (.int .i64 o.at') (.string o.S) (.string o.old) 46).below ((Below.refl _ _).alloc (Nat.le_refl _) (.cells #[.int .u32 0, .int .u64 0, .int .i64 0, .string ⟨#[]⟩, .slice none 0 0] 44)) (by simp)
      simpa using this
    · have := RowV.five_new ((w.alloc (.cells #[.int .u32 p.num, .int .u64 p.lsn, .int .i64 p.kind, .string p.head, .slice a p.slots.length c] 44)).alloc (.cells #[.int .i64 o.kind, .int .i64 o.at', .string o.S, .string o.old] 46)) (.int .u32 0) (.int .u64 0) (.int .i64 0) (.string ⟨#[]⟩) (.slice none 0 0) 44
      simpa using this
  go_enter Tryz.func52, Tryz.ntmps52
  go_wp2_with fail
  rw [← HW.out]
  clear HW
  refine (HCK.out _).mono ?_
  rintro e w1 ⟨rfl, b1⟩
  have h1 := hA.below b1 hA.lt
  clear b1 hA
  obtain ⟨x0, x1, x2, x3, x4⟩ := h1.page.cells5
  go_wp2_with fail
  refine (HCP.out _ h1.bel).mono ?_
  rintro e w2 ⟨b, rfl, hb1, hb2, hrow, b2⟩
  have hl1 := h1.lt
  have h2 := h1.below b2 h1.lt
  clear h1 x0 x1 x2 x3 x4
  obtain ⟨y0, y1, y2, y3⟩ := h2.op.cells4
  have hz2 := h2.lt
  have hz2' : w.heap.size + 1 < w2.heap.size := by omega
  go_wp2_with fail
  obtain ⟨W2, HW2⟩ : ∃ W2, Hid (W2 = w2.alloc (.cells #[.int .u32 p.num, .int .u64 p.lsn, .int .i64 p.kind, .string p.head, .slice (some ⟨b, 0, none⟩) p.slots.length p.slots.length] 44)) := ⟨_, rfl⟩
  have bA : Below w2.heap.size w2 W2 := by rw [HW2.out]; exact (Below.refl _ _).alloc (Nat.le_refl _) _
  have h3 := h2.below bA hz2
  have hs : SheetAt (w.heap.size + 3) W2 w2.heap.size b p := by
    refine ⟨by rw [HW2.out]; exact RowV.five_new w2 _ _ _ _ _ _, hrow.below bA hb2, hz2, by rw [HW2.out]; simp, by omega, by rw [HW2.out]; simp; omega, by omega⟩
  rw [← HW2.out]
  clear HW2 h2 y0 y1 y2 y3 bA hrow b2
  refine (HCO.out _).mono ?_
  rintro e w3 ⟨rfl, b3⟩
  have h4 := h3.below b3 h3.lt
  have hs4 := hs.below b3
  clear h3 hs b3
  go_wp2_with fail
  refine (HCH.out _ _ _ _ hs4).mono ?_
  rintro e w4 ⟨rfl, b4, hres⟩
  have h5 := h4.below b4 (Nat.le_refl _)
  have hz5 := Nat.lt_of_lt_of_le hs4.lt b4.size
  clear h4 hs4 b4
  obtain ⟨y0, y1, y2, y3, y4⟩ := h5.res.cells5
  obtain ⟨g0, g1, g2, g3, g4⟩ := h5.res.open5
  by_cases hE : E = 0
  · obtain ⟨a', c', hrow, hst, hcap⟩ := hres hE
    have Hcap := hido (fun g k e => ⟨by have := (hcap g k e).1; omega, (hcap g k e).2⟩ : ∀ g k, a' = some ⟨g, k, none⟩ → w.heap.size ≤ g ∧ g < w4.heap.size ∧ g ≠ w2.heap.size)
    clear hcap hres
    subst hE
    obtain ⟨x0, x1, x2, x3, x4⟩ := hrow.cells5
    obtain ⟨f0, f1, f2, f3, f4⟩ := hrow.open5
    go_wp2_with fail
    obtain ⟨w5, HW5⟩ : ∃ w5, Hid (w5 = w4.setCell ⟨w2.heap.size, 1, none⟩ (.int .u64 lsn)) := ⟨_, rfl⟩
    have hs5 := (hst.set 1 (.int .u64 lsn)).from
    have hr5 := h5.res.set_other (b' := w2.heap.size) (k := 1) (by omega) (.int .u64 lsn)
    have hb5 := h5.bel.setCell (p := ⟨w2.heap.size, 1, none⟩) (by show w.heap.size ≤ w2.heap.size; omega) (.int .u64 lsn)
    rw [← HW5.out] at hs5 hr5 hb5 ⊢
    have hq := hr5.set5 (.int .u32 q.num) (.int .u64 lsn) (.int .i64 q.kind) (.string q.head) (.slice a' q.slots.length c')
    have bq := below_set5 hb5 (b := w.heap.size + 2) (by omega) (.int .u32 q.num) (.int .u64 lsn) (.int .i64 q.kind) (.string q.head) (.slice a' q.slots.length c')
    have sq := hs5.store5 (b := w.heap.size + 2) (by omega) (.int .u32 q.num) (.int .u64 lsn) (.int .i64 q.kind) (.string q.head) (.slice a' q.slots.length c')
    obtain ⟨WX, HWX⟩ : ∃ WX, Hid (WX = store5 w5 (w.heap.size + 2) (.int .u32 q.num) (.int .u64 lsn) (.int .i64 q.kind) (.string q.head) (.slice a' q.slots.length c')) := ⟨_, rfl⟩
    have hzx : w4.heap.size ≤ WX.heap.size := by rw [HWX.out, store5_size, HW5.out]; simp
    have HZX := hido hzx
    clear hzx
    rw [← HWX.out] at hq bq
    rw [show (((((w5.setCell ⟨w.heap.size + 2, 0, none⟩ (.int .u32 q.num)).setCell ⟨w.heap.size + 2, 1, none⟩ (.int .u64 lsn)).setCell ⟨w.heap.size + 2, 2, none⟩ (.int .i64 q.kind)).setCell ⟨w.heap.size + 2, 3, none⟩ (.string q.head)).setCell ⟨w.heap.size + 2, 4, none⟩ (.slice a' q.slots.length c')) = WX from HWX.out.symm] at sq ⊢
    obtain ⟨r0, r1, r2, r3, r4⟩ := hq.cells5
    refine bodyPost_ret (v := .tuple #[.agg #[.int .u32 q.num, .int .u64 lsn, .int .i64 q.kind, .string q.head, .slice a' q.slots.length c'], .int .i64 0]) (by simp [results, Tryz.results52, go_sem, r0, r1, r2, r3, r4]) rfl ?_
    have hcf : ∀ g k, a' = some ⟨g, k, none⟩ → w.heap.size ≤ g ∧ g < WX.heap.size := fun g k e => ⟨(Hcap.out g k e).1, by have := (Hcap.out g k e).2.1; have := HZX.out; omega⟩
    exact ⟨_, rfl, bq, a', ⟨c', rfl⟩, sq.mono (by omega), hcf⟩
  · have hE' : (E != 0) = true := by rw [bne_iff_ne]; exact hE
    clear hres
    go_wp2
    have hq := h5.res.set5 (.int .u32 0) (.int .u64 0) (.int .i64 0) (.string ⟨#[]⟩) (.slice none 0 0)
    have bq := below_set5 h5.bel (b := w.heap.size + 2) (by omega) (.int .u32 0) (.int .u64 0) (.int .i64 0) (.string ⟨#[]⟩) (.slice none 0 0)
    obtain ⟨WX, HWX⟩ : ∃ WX, Hid (WX = store5 w4 (w.heap.size + 2) (.int .u32 0) (.int .u64 0) (.int .i64 0) (.string ⟨#[]⟩) (.slice none 0 0)) := ⟨_, rfl⟩
    rw [← HWX.out] at hq bq
    obtain ⟨r0, r1, r2, r3, r4⟩ := hq.cells5
    rw [show (((((w4.setCell ⟨w.heap.size + 2, 0, none⟩ (.int .u32 0)).setCell ⟨w.heap.size + 2, 1, none⟩ (.int .u64 0)).setCell ⟨w.heap.size + 2, 2, none⟩ (.int .i64 0)).setCell ⟨w.heap.size + 2, 3, none⟩ (.string ⟨#[]⟩)).setCell ⟨w.heap.size + 2, 4, none⟩ (.slice none 0 0)) = WX from HWX.out.symm]
    refine bodyPost_ret (v := .tuple #[.agg #[.int .u32 0, .int .u64 0, .int .i64 0, .string ⟨#[]⟩, .slice none 0 0], .int .i64 E]) (by simp [results, Tryz.results52, go_sem, r0, r1, r2, r3, r4]) rfl ?_
    exact ⟨_, rfl, bq, fun h => absurd h hE, fun _ => rfl⟩

end

end Go.Proofs.YtdhphbokkmofaaaGreat

namespace Go.Proofs.YtdhphbokkmofaaaGreat
open Go.RowKit Go.Sort

structure GCmR (w0 w' : World) (m p : Nat) (X : Int → Nat) (A0 : Nat → Prop) (lp z : Nat) (M0 : MgG) (rs0 : List ByteArray) (n K0 F N : Nat) (D : Nat → Prop) (V : Nat → SheetV) (J : List ByteArray → Nat → List UpN → Prop) (L : List UpN) (R : Nat) : Prop where
  ex : ∃ A P l rs ext d last, MSys w' m p X A P l d ((M0.pushed n).gone n) ∧ RecsAt l rs ∧ l.kept = K0 ∧ l.bytes.length + l.kept ≤ F ∧ PgN lp z D P V ∧ Moves A0 A w0 w' ∧ rs = rs0 ++ ext ∧ LOk l d ∧ DOk d (N + 2) ∧ J rs last L ∧ d.room = R

section
variable {w w0 wx wy : World} {m p lp z : Nat} {X : Int → Nat} {A A0 : Nat → Prop} {P : PG} {l : LG} {d : DG} {M M0 : MgG} {rs rs0 : List ByteArray} {t : MtV} {n : Nat} {L xs : List UpN} {x : UpN} {K0 F N : Nat} {st : Int} {e0 : Prop} {D : Nat → Prop} {V V' : Nat → SheetV} {J : List ByteArray → Nat → List UpN → Prop} {fn : FuncId} {cap : Value} {B : World → (Nat → Prop) → Prop} {CL : UpN → SheetV → Prop}

theorem gn_commitR (hJ : JOk n J) (h : GN w0 w m p X A0 lp z d M0 rs0 n K0 F 1 e0 D V J L) (hF : F ≤ 4194304) (hd : DOk d N) (hN : N ≤ 90000) (hdn : M0.done.length ≤ 1000000) :
    Calls Tryz.prog 76 #[.pointer (some ⟨m, 0, none⟩), .int .i64 n] w fun e w' => e = .returned (.int .i64 0) ∧ GCmR w0 w' m p X A0 lp z M0 rs0 n K0 F N D V J L d.room := by
  obtain ⟨A, P, l, rs, t, ext, hM, hR, hG, hst, hq, hbF, hP, mv, hext, hlo, hj, _⟩ := h.ex
  have hnn := hG.nn
  have hla := hG.last
  have hk := hG.kept
  have htx := hG.tx
  have ec : cOf t.state = 50 := by rw [hst]; rfl
  have hcnt := hR.count
  have hst' := hR.len
  have sz4 := markS_size 4 t (by omega)
  have e4 := spend_eqs l t (markS 4 t) 25 (by rw [sz4]; omega)
  have ecL : cmL l t = { putG l (markS 4 t) with kept := l.kept - (13 + 12) } := by unfold cmL; rw [e4.1, sz4]
  have ecT : cmT l t = { t with kept := t.kept - 25, last := l.bytes.length + 1, state := 2 } := by unfold cmT; rw [e4.2, sz4]
  have hlen : (cmL l t).bytes.length = l.bytes.length + 25 := by rw [ecL]; show (putG l _).bytes.length = _; rw [putG_len, sz4]
  have hlo1 : LOk (cmL l t) d := by
    refine ⟨?_, ?_, by rw [hlen]; omega, ?_⟩
    · rw [ecL]; exact hlo.half
    · rw [hlen]; have := hlo.fl; rw [ecL]; show l.flushed ≤ _; omega
    · rw [ecL]; exact hlo.at'
  have hlo2 := hlo1.fl' (l.bytes.length + 1)
  have hfb : flB (cmL l t) (l.bytes.length + 1) = true := by
    unfold flB
    have := hlo.fl
    refine decide_eq_true ⟨?_, ?_⟩
    · rw [hlen]; rw [ecL]; show l.flushed < _; omega
    · rw [ecL]; show l.flushed + 1 ≤ _; omega
  have ecF : cmF l t = { cmL l t with flushed := (cmL l t).bytes.length } := by unfold cmF flL; rw [if_pos hfb]
  have hFb : (cmF l t).bytes.length = l.bytes.length + 25 := by rw [ecF]; exact hlen
  have hFk : (cmF l t).kept = l.kept - 25 := by rw [ecF, ecL]
  have hFs : (cmF l t).starts.length = l.starts.length + 1 := by rw [ecF, ecL]; show (l.starts ++ [_]).length = _; simp
  have hTk : (cmT l t).kept = t.kept - 25 := by rw [ecT]
  have hTx : (cmT l t).tx = n := by rw [ecT]; exact htx
  have hTl : (cmT l t).last = l.bytes.length + 1 := by rw [ecT]
  have hRF : RecsAt (cmF l t) (rs ++ [markS 4 t]) := by
    have := hR.snoc (markS 4 t)
    rw [ecF, ecL]
    exact ⟨this.starts, this.long, this.text⟩
  have hj1 : J (rs ++ [markS 4 t]) (l.bytes.length + 1) L := by
    rw [mark_eq htx]
    exact hJ.mark (recM 4 n t.last) hR hj (RecOk.mark n t.last 4 (by omega) hnn (by omega)) (by show (3 : Int) < 4; decide) rfl
  refine (commit_ok (n := n) hM (by omega) (MgG.set_get M0 n t) hst hG.tx (by omega) (by omega) (by omega) (by omega) (by omega) (by omega) hdn hd hN hlo1 ⟨by rw [hFb]; omega, by rw [hFs]; omega, by rw [hFk]; omega, by rw [hTk]; omega, by rw [hTk]; omega⟩).mono ?_
  rintro e w' ⟨rfl, A', g, mv'⟩
  rw [MgG.set_pushed, MgG.set_gone] at g
  obtain ⟨a1, a2, a3, a4⟩ := TxG.ended (K0 := K0) (F := F) (l := cmF l t) (t := cmT l t) (by rw [hTk]; omega) hRF (by rw [hFk, hTk]; omega) (by rw [hFb, hFk]; omega)
  refine ⟨rfl, ⟨A', P, _, _, ext ++ [markS 4 t] ++ [markS 6 (cmT l t)], _, (cmF l t).bytes.length + 1, g, a1, a2, a4, hP, mv.trans mv', by rw [hext]; simp, ended_lok (by rw [hTk]; omega) hlo2 a3 (by rw [hFb]; omega), (hd.fl hlo1 (l.bytes.length + 1)).1, ?_, (hd.fl hlo1 (l.bytes.length + 1)).2.2⟩⟩
  rw [mark_eq hTx]
  exact hJ.mark (recM 6 n (cmT l t).last) hRF (by rw [hTl]; exact hj1) (RecOk.mark n _ 6 (by omega) hnn (by rw [hTl]; omega)) (by show (3 : Int) < 6; decide) rfl

end

end Go.Proofs.YtdhphbokkmofaaaGreat

namespace Go.Proofs.YtdhphbokkmofaaaGreat
open Go.RowKit Go.Sort

theorem ld_read (r q : Nat) : readD (newD r) q = zerosS := rfl

theorem ld_blank {r n : Nat} (h1 : 1 ≤ n) (h2 : n ≤ r) (h3 : n ≤ 2048) : feE (newD r) n = 0 ∧ feX (newD r) n = ⟨n, 0, 0, ⟨#[]⟩, []⟩ := by
  have hc : checkE (newD r).room n = 0 := by
    show checkE r n = 0
    unfold checkE
    rw [if_neg (by omega), if_neg (by omega)]
  have hb : rdB n zerosS = true := by
    unfold rdB
    rw [dec_zeros.1, dec_zeros.2]
    simp [sheet0]
  have hp : rdP n zerosS = ⟨n, 0, 0, ⟨#[]⟩, []⟩ := by
    unfold rdP
    rw [if_pos hb, dec_zeros.2]
    rfl
  have hg : givesB (rdP n zerosS) (rdP n zerosS) = true := by
    rw [hp]
    unfold givesB blankB sameB
    simp
  have hP : chP n zerosS zerosS = true := by
    unfold chP
    rw [hb, hg]
    rfl
  unfold feE feX
  rw [if_pos hc, if_pos hc, ld_read, ld_read]
  unfold chE chX
  rw [if_pos hP, if_pos hP, hp]
  exact ⟨rfl, rfl⟩

def ldS : ByteArray := freshS 2
theorem ldS_size : ldS.size = 256 := by
  show (freshL 2).toArray.size = 256
  rw [List.size_toArray, freshL_length]

def ldC1 : ChgV := chgP 1 opF 0
def ldC2 : ChgV := chgP 1 (opIns 0 ldS) 0
def ldL0 (dp : Nat) : LG := { log0 dp with kept := 128 }
def ldS1 : ByteArray := logS (fresh 1) ldC1
def ldT1 : MtV := { fresh 1 with last := 1, next := 1 }
def ldP1 (dp lp : Nat) : PG := putP (getP (pool0 dp lp 16) page0) page1
def ldL1 (dp : Nat) : LG := putG (ldL0 dp) ldS1
def ldS2 : ByteArray := logS ldT1 ldC2
def ldN2 (dp : Nat) : Nat := (ldL1 dp).bytes.length + 1
def ldT2 (dp : Nat) : MtV := { ldT1 with last := ldN2 dp, next := ldN2 dp }
def ldP2 (dp lp : Nat) : PG := putP (ldP1 dp lp) (mapV (ldN2 dp) ldS)
def ldL2 (dp : Nat) : LG := putG (ldL1 dp) ldS2

theorem ld_size {t : MtV} {n pg : Nat} {o : OpV} {u : Int} (h : t.tx = n) (hS : o.S.size ≤ 512) (hT : o.old.size ≤ 512) (hu : u = 0 ∨ u = 1) : (logS t (chgP pg o u)).size = 25 + o.S.size + o.old.size := by
  show (encR (recU t (chgP pg o u))).toArray.size = _
  rw [List.size_toArray, recU_eq h, chgP_len hS hT hu]

theorem ldS1_size : ldS1.size = 25 := ld_size (o := opF) rfl (by decide) (by decide) (.inl rfl)
theorem opIns_S (k : Nat) (S : ByteArray) : (opIns k S).S = S ∧ (opIns k S).old.size = 0 := ⟨rfl, rfl⟩
theorem ldS2_size : ldS2.size = 281 := by
  have h := ld_size (t := ldT1) (n := 1) (pg := 1) (o := opIns 0 ldS) (u := 0) rfl (by rw [(opIns_S 0 ldS).1, ldS_size]; omega) (by rw [(opIns_S 0 ldS).2]; omega) (.inl rfl)
  rw [(opIns_S 0 ldS).1, (opIns_S 0 ldS).2, ldS_size] at h
  exact h

theorem ldL1_len (dp : Nat) : (ldL1 dp).bytes.length = 37 := by
  have : (putG (ldL0 dp) ldS1).bytes.length = (ldL0 dp).bytes.length + (ldS1.size + 12) := putG_len _ _
  rw [ldS1_size] at this
  exact this
theorem ldL2_len (dp : Nat) : (ldL2 dp).bytes.length = 330 := by
  have : (putG (ldL1 dp) ldS2).bytes.length = (ldL1 dp).bytes.length + (ldS2.size + 12) := putG_len _ _
  rw [ldS2_size, ldL1_len] at this
  exact this
theorem ldN2_eq (dp : Nat) : ldN2 dp = 38 := by unfold ldN2; rw [ldL1_len]

theorem ld_ok1 : RecOk 1 (recN 1 0 ldC1) := chgP_ok (by omega) (by omega) (by omega) opF_ok opF_chk (by omega) (.inl rfl)
theorem ld_ok2 : RecOk 1 (recN 1 1 ldC2) := chgP_ok (by omega) (by omega) (by omega) (opIns_ok 0 ldS (by omega) (by rw [ldS_size]; omega)) (opIns_chk 0 ldS (by omega) (by rw [ldS_size]; omega)) (by omega) (.inl rfl)

theorem ld_born : mg0.born.T 1 = some (fresh 1) := by
  show (if (1 : Int) = ((mg0.next : Nat) : Int) then some (fresh mg0.next) else mg0.T 1) = _
  rw [if_pos (by rfl)]
  rfl

section
variable {w : World} {m p dp lp : Nat} {X : Int → Nat} {A : Nat → Prop}

theorem ld_log1 (h : MSys w m p X A (pool0 dp lp 16) (ldL0 dp) (newD 300) mg0.born) :
    Calls Tryz.prog 75 #[.pointer (some ⟨m, 0, none⟩), .int .i64 1, .agg ldC1.cells] w fun e w' => e = .returned (.tuple #[.int .u64 1, .int .i64 0]) ∧ ∃ A', MSys w' m p X A' (ldP1 dp lp) (ldL1 dp) (newD 300) (mg0.born.set 1 ldT1) ∧ Moves A A' w w' := by
  have hsz := ldS1_size
  obtain ⟨e1, e2⟩ := ld_blank (r := 300) (n := 1) (by omega) (by omega) (by omega)
  refine (tlog_none h 1 (by omega) (by omega) ld_born rfl ldC1 (fun wx => by rw [recU_eq (n := 1) rfl]; exact ld_ok1.ok wx none none (.inl rfl) (.inl rfl)) (by rw [recU_eq (n := 1) rfl]; exact ld_ok1.may) rfl (by show 1 ≤ ldS1.size ∧ ldS1.size ≤ 8192; omega) (by show 1 ≤ 1; omega) (by show 1 ≤ 2048; omega) page0 page0_fits (P1 := getP (pool0 dp lp 16) page0) (l1 := ldL0 dp) (d1 := newD 300) (fun wx A1 g => ?_) (q := ofmtQ page0 opF) (fun wx a c' hx => ?_) page1_fits rfl (by show 0 + 1 ≤ _; omega) (by simp [getP, setFr, page0, ldC1, chgP]) (by show 0 ≤ _; omega) (by show 0 ≤ _; omega) (by show 128 + 0 ≤ _; omega) (by show ldS1.size + 12 + 128 + 0 ≤ _; omega) (by show 128 ≤ _; omega)).mono ?_
  · have := mget_new g 1 (by omega) (by omega) (show (pool0 dp lp 16).F 1 = none from rfl) rfl (fun q => by rw [ld_read]; have := zerosS_size; omega) e1 (room_roomy (by show 0 < 16; omega) (by show 16 ≤ _; omega)) rfl (by show 0 ≤ _; omega) (by show 0 ≤ _; omega)
    rw [e2] at this
    exact this
  · refine (apply_ofO (c := c') 1 hx page0_fits opF_ok opF_chk (change_fmtO opF_ok rfl)).mono ?_
    rintro e w' ⟨Xv, rfl, bx, h0, _⟩
    obtain ⟨a', c'', rfl, hs, hz⟩ := h0 rfl
    exact ⟨⟨a', c'', rfl, bx, hs, hz⟩⟩
  · rintro e w' ⟨rfl, A', g, mv⟩
    exact ⟨rfl, A', g, mv⟩

theorem ldP1_F (dp lp : Nat) : ∃ s, (ldP1 dp lp).F 1 = some ⟨page1, s⟩ := ⟨sinceF (oldS (getP (pool0 dp lp 16) page0) 1) 1, by simp [ldP1, putP, setFr, page1]⟩

theorem ld_ins (s : ByteArray) (hs : s.size = 256) : ChangeDoes page1 (opIns 0 s) 0 (mapV 1 s) := by
  have hE : insE page1 (opIns 0 s) = 0 := by
    unfold insE
    rw [if_neg (by show ¬ ((0 : Nat) : Int) < ((0 : Nat) : Int); omega), if_neg (by show ¬ 64 ≤ 0; omega), if_neg (by show ¬ 485 < 0 + 0 + (2 + s.size); omega)]
  have := change_ins (p := page1) (o := opIns 0 s) page1_fits (opIns_ok 0 s (by omega) (by omega)) rfl (by show (0 : Int) ≤ ((0 : Nat) : Int); omega)
  rw [hE] at this
  exact this

theorem ld_log2 (h : MSys w m p X A (ldP1 dp lp) (ldL1 dp) (newD 300) (mg0.born.set 1 ldT1)) :
    Calls Tryz.prog 75 #[.pointer (some ⟨m, 0, none⟩), .int .i64 1, .agg ldC2.cells] w fun e w' => ∃ pl : Nat, e = .returned (.tuple #[.int .u64 pl, .int .i64 0]) ∧ ∃ A', MSys w' m p X A' (ldP2 dp lp) (ldL2 dp) (newD 300) (mg0.born.set 1 (ldT2 dp)) ∧ Moves A A' w w' := by
  have hsz := ldS2_size
  have hln := ldL1_len dp
  have hss := ldS_size
  obtain ⟨s, hF⟩ := ldP1_F dp lp
  refine (tlog_none h 1 (by omega) (by omega) (MgG.set_get _ _ _) rfl ldC2 (fun wx => by rw [recU_eq (n := 1) rfl]; exact ld_ok2.ok wx none none (.inl rfl) (.inl rfl)) (by rw [recU_eq (n := 1) rfl]; exact ld_ok2.may) rfl (by show 1 ≤ ldS2.size ∧ ldS2.size ≤ 8192; omega) (by show 1 ≤ 1; omega) (by show 1 ≤ 2048; omega) page1 page1_fits (P1 := ldP1 dp lp) (l1 := ldL1 dp) (d1 := newD 300) (fun wx A1 g => mget_here g 1 (by omega) (by omega) hF) (q := mapV 1 ldS) (fun wx a c' hx => ap_of _ page1_fits (opIns_ok 0 ldS (by omega) (by omega)) (opIns_chk 0 ldS (by omega) (by omega)) (ld_ins ldS hss) (by simp [mapV]) wx a c' hx) (mapV_fits _ _ (by omega) hss) rfl (by show 0 + 1 ≤ _; omega) (by show (ldP1 dp lp).F 1 ≠ none; rw [hF]; exact Option.some_ne_none _) (by show 1 ≤ _; omega) (by omega) (by show 128 + _ ≤ _; omega) (by show ldS2.size + 12 + 128 + _ ≤ _; omega) (by show 128 ≤ _; omega)).mono ?_
  rintro e w' ⟨rfl, A', g, mv⟩
  rw [MgG.set_set] at g
  exact ⟨_, rfl, A', g, mv⟩

def ldV : Nat → SheetV := fun _ => mapV 0 ldS
def ldJ : List ByteArray → Nat → List UpN → Prop := fun _ _ _ => True
theorem ldJ_ok (n : Nat) : JOk n ldJ := ⟨fun _ _ _ _ _ => trivial, fun _ _ _ _ _ _ _ _ => trivial, fun _ _ _ _ _ _ => trivial, fun _ _ _ _ _ _ => trivial⟩

theorem ld_recs (dp : Nat) : RecsAt (ldL2 dp) [ldS1, ldS2] := by
  have h0 : RecsAt (ldL0 dp) [] := ⟨(RecsAt.nil dp).starts, (RecsAt.nil dp).long, (RecsAt.nil dp).text⟩
  exact (h0.snoc ldS1).snoc ldS2

theorem ld_txn (dp : Nat) : TxN [ldS1, ldS2] (ldL2 dp).bytes.length (ldT2 dp) 1 [] := by
  have h0 : RecsAt (ldL0 dp) [] := ⟨(RecsAt.nil dp).starts, (RecsAt.nil dp).long, (RecsAt.nil dp).text⟩
  have h1 := (TxN.start [] (ldL0 dp).bytes.length 1 (by omega)).none (c := ldC1) h0 rfl ld_ok1 (b' := (ldL1 dp).bytes.length) (by rw [ldL1_len]; show 0 + 1 ≤ _; omega)
  have h2 := TxN.none (l := ldL1 dp) (c := ldC2) h1 (h0.snoc ldS1) rfl ld_ok2 (b' := (ldL2 dp).bytes.length) (by rw [ldL1_len, ldL2_len]; omega)
  exact h2

theorem ld_gn {w0 : World} (h : MSys w m p X A (ldP2 dp lp) (ldL2 dp) (newD 300) (mg0.born.set 1 (ldT2 dp))) {A0 : Nat → Prop} (mv : Moves A0 A w0 w) : GN w0 w m p X A0 lp 1 (newD 300) mg0.born [] 1 0 458 1 False (fun k => k = 1) ldV ldJ [] := by
  have hk : (ldL2 dp).kept = 128 := rfl
  have hl := ldL2_len dp
  refine ⟨A, _, _, _, _, [ldS1, ldS2], h, ld_recs dp, ld_txn dp, rfl, hk, by omega, ⟨fun pg e => ?_, ?_, rfl⟩, mv, rfl, ⟨rfl, Nat.zero_le _, by omega, rfl⟩, trivial, fun e => e.elim⟩
  · subst e
    obtain ⟨s, hF⟩ := ldP1_F dp lp
    refine ⟨⟨mapV (ldN2 dp) ldS, sinceF (oldS (ldP1 dp lp) 1) (ldN2 dp)⟩, by simp [ldP2, putP, setFr, mapV], mapV_fits _ _ (by rw [ldN2_eq]; omega) ldS_size, rfl, ⟨rfl, rfl, rfl⟩⟩
  · obtain ⟨s, hF⟩ := ldP1_F dp lp
    show (if ((ldP1 dp lp).F 1).isSome = true then (ldP1 dp lp).z else (ldP1 dp lp).z + 1) ≤ 1
    rw [hF]
    simp [ldP1, putP, getP, setFr, page0, page1, pool0]

theorem ld_begin (h : MSys w m p X A (pool0 dp lp 16) (log0 dp) (newD 300) mg0) :
    Calls Tryz.prog 18 #[.pointer (some ⟨m, 0, none⟩)] w fun r w' => r = .returned (.tuple #[.int .i64 1, .int .i64 0]) ∧ ∃ A' b, MSys w' m p (bornX X 1 b) A' (pool0 dp lp 16) (ldL0 dp) (newD 300) mg0.born ∧ Moves A A' w w' := by
  have := begin_ok h (by show 1 ≤ _; omega) rfl (by show 0 < 64; omega) (by show 0 ≤ _; omega) (by show 0 + 128 + 0 ≤ _; omega)
  exact this

theorem ld_dok (r : Nat) : DOk (newD r) 0 := ⟨rfl, rfl, ⟨(fun x hx => by cases hx), (fun q => zerosS_size), by show 0 + 0 ≤ _; omega, by show 0 ≤ _; omega, Nat.le_refl _⟩, rfl, (fun q => rfl), by show 0 ≤ 10; omega, Nat.le_refl _, Nat.le_refl _⟩

def LdOut (w0 w' : World) (m p : Nat) (X : Int → Nat) (A0 : Nat → Prop) (lp : Nat) : Prop := GCmR w0 w' m p X A0 lp 1 mg0.born [] 1 0 458 0 (fun k => k = 1) ldV ldJ [] 300

end

end Go.Proofs.YtdhphbokkmofaaaGreat

namespace Go.Proofs.YtdhphbokkmofaaaGreat
open Go.RowKit Go.Sort

section
variable {w : World} {m p dp lp : Nat} {X : Int → Nat} {A : Nat → Prop}

def ldPk (dp lp : Nat) : Nat → PG
  | 0 => pool0 dp lp 16
  | 1 => ldP1 dp lp
  | _ => ldP2 dp lp
def ldLk (dp : Nat) : Nat → LG
  | 0 => ldL0 dp
  | 1 => ldL1 dp
  | _ => ldL2 dp
def ldMk (dp : Nat) : Nat → MgG
  | 0 => mg0.born
  | 1 => mg0.born.set 1 ldT1
  | _ => mg0.born.set 1 (ldT2 dp)
def ldCk : Nat → ChgV
  | 0 => ldC1
  | _ => ldC2

structure LdSt (w wx : World) (m p dp lp : Nat) (A : Nat → Prop) (X : Int → Nat) (g k : Nat) : Prop where
  ex : ∃ A', MSys wx m p X A' (ldPk dp lp k) (ldLk dp k) (newD 300) (ldMk dp k) ∧ Moves A A' w wx ∧ ¬ A' g
  ops : FreshOps wx g 2

theorem TwoOps.same {w w' : World} {g : Nat} {v0 v1 v2 v3 u0 u1 u2 u3 : Value} (h : TwoOps w g v0 v1 v2 v3 u0 u1 u2 u3) (k : w'.heap[g]? = w.heap[g]?) (hz : w.heap.size ≤ w'.heap.size) : TwoOps w' g v0 v1 v2 v3 u0 u1 u2 u3 :=
  have e := fun i => World.cell?_of_block (w := w) (w' := w') (a := ⟨g, i, none⟩) k
  ⟨Nat.lt_of_lt_of_le h.lt hz, (e 0).trans h.c0, (e 1).trans h.c1, (e 2).trans h.c2, (e 3).trans h.c3, (e 4).trans h.c4, (e 5).trans h.c5, (e 6).trans h.c6, (e 7).trans h.c7⟩

theorem LdSt.log {w wx : World} {m p dp lp : Nat} {A : Nat → Prop} {X : Int → Nat} {g k : Nat} (hk : k < 2) (h : LdSt w wx m p dp lp A X g k) (d : Nat) :
    Calls Tryz.prog 75 #[.pointer (some ⟨m, 0, none⟩), .int .i64 1, .agg (ldCk k).cells] wx fun e w' => ∃ pl : Nat, e = .returned (.tuple #[.int .u64 pl, .int .i64 0]) ∧ LdSt w w' m p dp lp A X g (k + 1) := by
  obtain ⟨A', hM, mv, hn⟩ := h.ex
  have key : ∀ {w' : World} {A2 : Nat → Prop}, Moves A' A2 wx w' → w'.heap[g]? = wx.heap[g]? ∧ ¬ A2 g := fun mv2 => mv2.off h.ops.lt hn
  have hk' : k = 0 ∨ k = 1 := by omega
  rcases hk' with rfl | rfl
  · refine (ld_log1 hM).mono ?_
    rintro e w' ⟨rfl, A2, g2, mv2⟩
    exact ⟨1, rfl, ⟨A2, g2, mv.trans mv2, (key mv2).2⟩, h.ops.same (key mv2).1 mv2.1.size⟩
  · refine (ld_log2 hM).mono ?_
    rintro e w' ⟨pl, rfl, A2, g2, mv2⟩
    exact ⟨pl, rfl, ⟨A2, g2, mv.trans mv2, (key mv2).2⟩, h.ops.same (key mv2).1 mv2.1.size⟩

theorem LdSt.commit {w wx : World} {m p dp lp : Nat} {A : Nat → Prop} {X : Int → Nat} {g : Nat} (h : LdSt w wx m p dp lp A X g 2) :
    Calls Tryz.prog 76 #[.pointer (some ⟨m, 0, none⟩), .int .i64 1] wx fun e w' => e = .returned (.int .i64 0) ∧ LdOut w w' m p X A lp := by
  obtain ⟨A', hM, mv, hn⟩ := h.ex
  exact gn_commitR (N := 0) (ldJ_ok 1) (ld_gn hM mv) (by omega) (ld_dok 300) (by omega) (by show 0 ≤ _; omega)

set_option maxHeartbeats 6400000 in
set_option maxRecDepth 20000 in
theorem laid16_any (h : MSys w m p X A (pool0 dp lp 16) (log0 dp) (newD 300) mg0) :
    Calls Tryz.prog 55 #[.pointer (some ⟨m, 0, none⟩)] w fun e w' => e = .returned (.int .i64 0) ∧ ∃ X', LdOut w w' m p X' A lp := by
  have HBG := hidx (ld_begin h)
  clear h
  go_enter Tryz.func55, Tryz.ntmps55
  go_wp2_with fail
  refine HBG.out.mono ?_
  rintro e w1 ⟨rfl, A1, b, h1, mv1⟩
  have H1 := hidx (⟨h1, mv1⟩ : MSys w1 m p (bornX X 1 b) A1 (pool0 dp lp 16) (ldL0 dp) (newD 300) mg0.born ∧ Moves A A1 w w1)
  have HFR := hidx (fresh_ok 2 w1 (by omega) (by omega))
  clear h1 mv1 HBG
  generalize bornX X 1 b = X1 at H1
  go_wp2_with fail
  refine HFR.out.mono ?_
  rintro e w2 ⟨g, rfl, b2, hg, ho⟩
  have HG : Hid (LdSt w w2 m p dp lp A X1 g 0) := hidx ⟨⟨A1, H1.out.1.below b2, H1.out.2.trans (Moves.of_kept (Kept.of_below b2)), fun x => by have := H1.out.1.lt g x; omega⟩, ho⟩
  clear HFR b2 hg ho H1
  go_wp2_with fail
  go_loopw [4, 7] (fun v4 v7 wr => ∃ k : Nat, k ≤ 2 ∧ v7 = .int .i64 (k : Int) ∧ v4 = .int .i64 0 ∧ Hid (LdSt w wr m p dp lp A X1 g k)) (fun _ v _ => 3 - (intOf v).toNat)
  case atStart => exact ⟨0, by omega, rfl, rfl, HG⟩
  case round =>
    obtain ⟨k, hk, rfl, rfl, HB⟩ := hrel
    clear HG
    have hk' : k = 0 ∨ k = 1 ∨ k = 2 := by omega
    rcases hk' with rfl | rfl | rfl
    · have c0 := HB.out.ops.c0
      have c1 := HB.out.ops.c1
      have c2 := HB.out.ops.c2
      have c3 := HB.out.ops.c3
      have HLG := hidx (HB.out.log (by omega) 0)
      clear HB
      go_wp2_with fail
      refine HLG.out.mono ?_
      rintro e w4 ⟨pl, rfl, hh⟩
      have H2 := hidx hh
      clear HLG hh c0 c1 c2 c3
      go_wp2_with fail
      go_roundw
      case rel => exact ⟨1, by omega, by go_num, rfl, H2⟩
      case measure => simp [intOf]
    · have c0 := HB.out.ops.c4
      have c1 := HB.out.ops.c5
      have c2 := HB.out.ops.c6
      have c3 := HB.out.ops.c7
      have HLG := hidx (HB.out.log (by omega) 0)
      clear HB
      go_wp2_with fail
      refine HLG.out.mono ?_
      rintro e w4 ⟨pl, rfl, hh⟩
      have H2 := hidx hh
      clear HLG hh c0 c1 c2 c3
      go_wp2_with fail
      go_roundw
      case rel => exact ⟨2, by omega, by go_num, rfl, H2⟩
      case measure => simp [intOf]
    · have HCM := hidx HB.out.commit
      clear HB
      go_wp2_with fail
      refine HCM.out.mono ?_
      rintro e w4 ⟨rfl, hh⟩
      have H2 := hidx hh
      go_wp2_with fail
      refine bodyPost_ret (v := .int .i64 0) (by simp [results, Tryz.results55, go_sem]) rfl ?_
      exact ⟨rfl, _, H2.out⟩

end

end Go.Proofs.YtdhphbokkmofaaaGreat

namespace Go.Proofs.YtdhphbokkmofaaaGreat
open Go.RowKit Go.Sort

structure UnBegun (w : World) (e : Ending) (w' : World) : Prop where
  out : ∃ m p lp w0 X A0, e = .returned (.tuple #[.pointer (some ⟨m, 0, none⟩), .bool true]) ∧ LdOut w0 w' m p X A0 lp ∧ Below w.heap.size w w0 ∧ ∀ k, A0 k → w.heap.size ≤ k

set_option maxHeartbeats 3200000 in
set_option maxRecDepth 8000 in
theorem begun16_any (w : World) : Calls Tryz.prog 17 #[] w (UnBegun w) := by
  go_enter Tryz.func17, Tryz.ntmps17
  go_wp2_with fail
  refine (wnew_out w 300 (by omega) (by omega)).mono ?_
  rintro e w1 ⟨dp, rfl, ⟨D, hD, hDn⟩, b1⟩
  go_wp2_with fail
  refine (open_out hD rfl (by show 0 ≤ _; omega) (by show (scan ⟨#[]⟩ (0 + 1) 0).2 = 0; rw [scan_none])).mono ?_
  rintro e w2 ⟨lp, rfl, ⟨L, hL, hLn⟩, b2⟩
  rw [openL_new] at hL
  go_wp2_with fail
  refine (pnew_ok w2 dp lp 16 (by omega) (by omega)).mono ?_
  rintro e w3 ⟨p, S, rfl, hP, hSn, b3⟩
  have z1 := b1.size
  have z2 := b2.size
  have hD3 := (hD.below b2).below b3
  have hL3 := hL.below b3
  have hSys : Sys w3 p (fun k => S k ∨ L k ∨ D k) (pool0 dp lp 16) (log0 dp) (newD 300) := by
    refine ⟨⟨S, L, D, hP, hL3, hD3, ?_, ?_, ?_, fun _ x => x⟩, rfl, ?_⟩
    · intro k x y
      have := hSn k x
      have := hL.lt y
      omega
    · intro k x y
      have := hSn k x
      have := (hD.below b2).lt y
      omega
    · intro k x y
      have := hLn k x
      have := hD.lt y
      omega
    · rintro k (x | x | x)
      · exact hP.lt x
      · exact hL3.lt x
      · exact hD3.lt x
  have hAn : ∀ k, (S k ∨ L k ∨ D k) → w.heap.size ≤ k := by
    rintro k (x | x | x)
    · have := hSn k x; omega
    · have := hLn k x; omega
    · exact hDn k x
  have hbel := below_chain (below_chain b1 b2) b3
  have HTN := hidx (tnew_any hSys (fun _ => 0))
  have HAN := hidx hAn
  have HBL := hidx hbel
  clear hSys hAn hbel hD hDn hL hLn hP hSn b1 b2 b3 hD3 hL3 z1 z2
  go_wp2_with fail
  refine HTN.out.mono ?_
  rintro e w4 ⟨rfl, A4, h4, mv4⟩
  have HA4 : Hid (∀ k, A4 k → w.heap.size ≤ k) := hidx fun k x => by
    rcases mv4.2 k x with y | y
    · exact HAN.out k y
    · have := HBL.out.size; omega
  have HB4 := hidx (below_kept HBL.out mv4.1 HAN.out)
  have HLD := hidx (laid16_any h4)
  clear HTN HAN HBL h4 mv4
  obtain ⟨m, Hm⟩ : ∃ m, Hid (w3.heap.size + 1 = m) := ⟨_, rfl⟩
  rw [Hm.out] at HLD
  rw [Hm.out]
  clear Hm
  go_wp2_with fail
  refine HLD.out.mono ?_
  rintro e w5 ⟨rfl, X', h5⟩
  have H5 := hidx h5
  clear HLD h5
  go_wp2_with fail
  refine bodyPost_ret (v := .tuple #[.pointer (some ⟨m, 0, none⟩), .bool true]) (by simp [results, Tryz.results17, go_sem]) rfl ?_
  exact ⟨⟨m, p, lp, w4, X', A4, rfl, H5.out, HB4.out, HA4.out⟩⟩

end Go.Proofs.YtdhphbokkmofaaaGreat
