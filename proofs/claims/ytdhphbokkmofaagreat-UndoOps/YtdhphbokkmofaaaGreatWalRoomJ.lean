/-
  The walks of Keep, Give, Spend, and of Append where there is no room.
-/
import Derived.Test.YtdhphbokkmofaaaGreatWalFrameJ
import Derived.StillTailTactics
import Derived.Test.YtdhphbokkmofaaaGreatPoolReadJ
import Derived.Deep.LoopGhost
import Derived.Deep.Draws
set_option linter.unusedVariables false
set_option linter.unusedSimpArgs false
namespace Go.Proofs.YtdhphbokkmofaaaGreat
open Go.RowKit

section
variable {w : World} {p : Nat} {S : Nat → Prop} {l : LG}

theorem Moves.cell (h : IsLog w p S l) (i : Nat) (v : Value) : Moves S S w (w.setCell ⟨p, i, none⟩ v) := Moves.of_kept (Kept.setCell _ _ _ _ _ h.has)

set_option maxHeartbeats 400000 in
set_option maxRecDepth 8000 in
theorem keep_ok (h : IsLog w p S l) (hb : l.bytes.length ≤ 4194304) (hk : l.kept ≤ 4194304) (n : Nat) (hn : n ≤ 1000000000) (hm : (n : Int) ≤ (4194304 : Int) - l.bytes.length - l.kept) :
    Calls Tryz.prog 57 #[.pointer (some ⟨p, 0, none⟩), .int .i64 n] w fun e w' => e = .returned (.int .i64 0) ∧ IsLog w' p S { l with kept := l.kept + n } ∧ Moves S S w w' := by
  have hD : IsLog w.drew p S l := h.same (fun _ _ => rfl) (Nat.le_refl _)
  have HR := hid (room_out hD hb)
  have HD := hid hD
  have c5 := h.cell5
  have f5 : w.frozen? ⟨p, 5, none⟩ = false := by obtain ⟨_, _, hL, _⟩ := h; exact hL.cells.fr 5
  have k0 : decide ((n : Int) < 0) = false := by simp
  have k1 : decide ((4194304 : Int) - l.bytes.length - l.kept < (n : Int)) = false := by simp; omega
  have hw : IntKind.i64.wrap ((4194304 : Int) - (l.bytes.length : Int) - (l.kept : Int)) = (4194304 : Int) - (l.bytes.length : Int) - (l.kept : Int) := by rw [IntKind.wrap_i64]; omega
  have HF : Hid (IsLog ((w.setCell ⟨p, 5, none⟩ (.int .i64 ((l.kept : Int) + (n : Int)))).drew) p S { l with kept := l.kept + n } ∧ Moves S S w ((w.setCell ⟨p, 5, none⟩ (.int .i64 ((l.kept : Int) + (n : Int)))).drew)) := by
    have s1 : IsLog (w.setCell ⟨p, 5, none⟩ (.int .i64 ((l.kept : Int) + (n : Int)))) p S { l with kept := l.kept + n } := h.set (fun _ _ => rfl) rfl rfl
    exact ⟨s1.same (fun _ _ => rfl) (Nat.le_refl _), (Moves.cell h 5 _).kept ((Kept.refl _ _).drew)⟩
  clear h hD
  go_enter Tryz.func57, Tryz.ntmps57
  go_wp2_with fail
  go_region_held3 (fun w' => w'.cell? ⟨p, 5, none⟩ = some (.int .i64 l.kept)) (first | exact c5 | go_keep)
    (first | (go_at_call 119; refine HR.out.mono ?_; rintro x w3 ⟨rfl, rfl⟩))
  go_wp2
  go_ret
  exact ⟨rfl, HF.out⟩

set_option maxHeartbeats 400000 in
set_option maxRecDepth 8000 in
theorem give_any (h : IsLog w p S l) (hk : l.kept ≤ 4194304) (n : Nat) (hn : n ≤ 1000000000) :
    Calls Tryz.prog 103 #[.pointer (some ⟨p, 0, none⟩), .int .i64 n] w fun e w' => e = .returned (.int .i64 ((l.kept - n : Nat) : Int)) ∧ IsLog w' p S { l with kept := l.kept - n } ∧ Moves S S w w' := by
  have c5 := h.cell5
  have f5 : w.frozen? ⟨p, 5, none⟩ = false := by obtain ⟨_, _, hL, _⟩ := h; exact hL.cells.fr 5
  have HF : Hid (IsLog ((w.setCell ⟨p, 5, none⟩ (.int .i64 ((l.kept - n : Nat) : Int))).drew) p S { l with kept := l.kept - n } ∧ Moves S S w ((w.setCell ⟨p, 5, none⟩ (.int .i64 ((l.kept - n : Nat) : Int))).drew)) := by
    have s1 : IsLog (w.setCell ⟨p, 5, none⟩ (.int .i64 ((l.kept - n : Nat) : Int))) p S { l with kept := l.kept - n } := h.set (fun _ _ => rfl) rfl rfl
    exact ⟨s1.same (fun _ _ => rfl) (Nat.le_refl _), (Moves.cell h 5 _).kept ((Kept.refl _ _).drew)⟩
  have em : (l.kept : Int) - min (n : Int) (l.kept : Int) = ((l.kept - n : Nat) : Int) := by omega
  clear h
  go_enter Tryz.func103, Tryz.ntmps103
  go_wp2_with fail
  go_still_tail 14, (by kernel_rfl)
  go_wp2_with fail
  go_ret
  exact ⟨rfl, HF.out⟩

set_option maxHeartbeats 400000 in
set_option maxRecDepth 8000 in
theorem spend_out (h : IsLog w p S l) (hb : l.bytes.length ≤ 4194304) (hn : l.starts.length ≤ 10000000) (hk : l.kept ≤ 4194304) (s : ByteArray) (h1 : 1 ≤ s.size) (h2 : s.size ≤ 8192) (hm : s.size + 12 + l.bytes.length ≤ 4194304) :
    Calls Tryz.prog 158 #[.pointer (some ⟨p, 0, none⟩), .string s] w fun e w' => e = .returned (.tuple #[.int .u64 ((l.bytes.length + 1 : Nat) : Int), .int .i64 0]) ∧ ∃ S', IsLog w' p S' { putG l s with kept := l.kept - (s.size + 12) } ∧ Moves S S' w w' := by
  have HR := hid (room_out h hb)
  have HP := hid (put_ok h hb hn s h1 h2 ((4194304 : Int) - (l.bytes.length : Int)) (by omega))
  clear h
  go_enter Tryz.func158, Tryz.ntmps158
  go_wp2_with fail
  refine HR.out.mono ?_
  rintro x w3 ⟨rfl, rfl⟩
  go_wp2_with fail
  refine HP.out.mono ?_
  rintro x w4 ⟨rfl, S4, hL4, hM4⟩
  have HM := hid hM4
  have HL := hid hL4
  clear hM4 hL4 HP HR
  go_wp2_with fail
  refine (give_any HL.out (by show l.kept ≤ _; omega) (s.size + 12) (by omega)).mono ?_
  rintro e w5 ⟨rfl, hL5, hM5⟩
  have HF := hid (⟨S4, hL5, HM.out.trans hM5⟩ : ∃ S', IsLog w5 p S' { putG l s with kept := l.kept - (s.size + 12) } ∧ Moves S S' w3 w5)
  clear hL5 hM5 HM HL
  go_wp2
  go_ret2
  exact ⟨rfl, HF.out⟩

end

end Go.Proofs.YtdhphbokkmofaaaGreat

namespace Go.Proofs.YtdhphbokkmofaaaGreat
open Go.RowKit Go.Sort

theorem hidx {p : Prop} (h : p) : Hid p := h
theorem xret_bool {a b : Bool} (h : a = b) : Ending.returned (.bool a) = .returned (.bool b) := by rw [h]
theorem xret_int {k : IntKind} {a b : Int} (h : a = b) : Ending.returned (.int k a) = .returned (.int k b) := by rw [h]

theorem xKeyed : Maps.Keyed Tryz.prog 3 := Maps.int_keyed (q := .i64) Tryz.underlying3

def xkey (n : Int) : Lit := .int .i64 n

theorem xkey_key {n : Int} (h1 : -9223372036854775808 ≤ n) (h2 : n ≤ 9223372036854775807) : keyOf Tryz.prog 3 (.int .i64 n) = some (xkey n) := Maps.keyOf_int_mk Tryz.underlying3 (WalkArith.wf_i64 (by omega))

theorem xkey_ne {a b : Int} (h : a ≠ b) : xkey a ≠ xkey b := fun e => h (by simpa [xkey] using e)

theorem xkey_lit (n : Int) : WideAt.IsKeyLit (xkey n) := by simp [xkey, WideAt.IsKeyLit]

structure DbV where
  lsn : Nat
  room : Nat

def DbV.enc (x : DbV) : List Value := [.int .u64 x.lsn, .int .i64 x.room]

structure MtV where
  tx : Nat
  state : Int
  last : Nat
  next : Nat
  begun : Bool
  kept : Nat
  debts : List DbV

def MtV.cells (t : MtV) (dv : Value) : Array Value := #[.int .i64 t.tx, .int .i64 t.state, .int .u64 t.last, .int .u64 t.next, .bool t.begun, .int .i64 t.kept, dv]

def DebtsAt (w : World) (dv : Value) (L : List DbV) : Prop := w.ownsRow 0 241 2 dv L.length (L.flatMap DbV.enc)

theorem ownsRow_same {w w' : World} {base : Nat} {e : TypeId} {s : Nat} {v : Value} {n : Nat} {xs : List Value} (h : w.ownsRow base e s v n xs) (k : ∀ g, v.ownBlock = some g → w'.heap[g]? = w.heap[g]?) : w'.ownsRow base e s v n xs := by
  rcases h.2 with ⟨q, r⟩ | ⟨g, cap, cur, q, h1, h2, h3⟩
  · exact ⟨h.1, .inl ⟨q, r⟩⟩
  · exact ⟨h.1, .inr ⟨g, cap, cur, q, h1, (k g (by rw [q]; rfl)).trans h2, h3⟩⟩

theorem ownsRow_block {w : World} {base : Nat} {e : TypeId} {s : Nat} {v : Value} {n : Nat} {xs : List Value} (h : w.ownsRow base e s v n xs) {g : Nat} (hg : v.ownBlock = some g) : ∃ cur, w.heap[g]? = some (.cells cur e (0, 0)) := by
  rcases h.2 with ⟨q, r⟩ | ⟨g', cap, cur, q, h1, h2, h3⟩
  · rw [q] at hg; cases hg
  · rw [q] at hg
    simp only [Value.ownBlock, Option.some.injEq] at hg
    exact ⟨cur, hg ▸ h2⟩

structure MtAt (S : Nat → Prop) (w : World) (b : Nat) (t : MtV) : Prop where
  ex : ∃ dv, Blk w b (t.cells dv) 104 ∧ DebtsAt w dv t.debts ∧ ∀ g, dv.ownBlock = some g → S g ∧ g ≠ b
  sb : S b
  lt : ∀ k, S k → k < w.heap.size

theorem MtAt.same {S : Nat → Prop} {w w' : World} {b : Nat} {t : MtV} (h : MtAt S w b t) (k : ∀ i, S i → w'.heap[i]? = w.heap[i]?) (hs : w.heap.size ≤ w'.heap.size) : MtAt S w' b t := by
  obtain ⟨⟨dv, h1, h2, h3⟩, h4, h5⟩ := h
  exact ⟨⟨dv, h1.same (k b h4), ownsRow_same h2 fun g hg => k g (h3 g hg).1, h3⟩, h4, fun i hi => Nat.lt_of_lt_of_le (h5 i hi) hs⟩

structure MgG where
  T : Int → Option MtV
  z : Nat
  next : Nat
  done : List Nat

def zeroT : Value := .pointer none

def numsV (L : List Nat) : List Value := L.map fun (k : Nat) => .int .i64 (k : Int)

structure MgAt (w : World) (m tb : Nat) (dn : Value) (D : DataW Value) (X : Int → Nat) (S : Int → Nat → Prop) (B : Nat → Prop) (p : Nat) (M : MgG) : Prop where
  blk : Blk w m #[.pointer (some ⟨p, 0, none⟩), .map (some tb), .int .i64 M.next, dn] 128
  map : MapV 3 w tb M.z D
  no : ∀ n, M.T n = none → Maps.has D (xkey n) = false
  yes : ∀ n t, M.T n = some t → Maps.has D (xkey n) = true ∧ getV D (xkey n) zeroT = .pointer (some ⟨X n, 0, none⟩) ∧ MtAt (S n) w (X n) t ∧ (t.tx : Int) = n
  keys : ∀ l, Maps.has D l = true → ∃ n, l = xkey n ∧ M.T n ≠ none
  done : w.ownsRow 0 3 1 dn M.done.length (numsV M.done)
  apart : ∀ n n', n ≠ n' → M.T n ≠ none → M.T n' ≠ none → ∀ k, S n k → ¬ S n' k
  off : ∀ n, M.T n ≠ none → ∀ k, S n k → k ≠ m ∧ k ≠ tb ∧ dn.ownBlock ≠ some k
  dm : dn.ownBlock ≠ some m
  bm : B m
  bt : B tb
  bd : ∀ g, dn.ownBlock = some g → B g
  bs : ∀ n, M.T n ≠ none → ∀ k, S n k → B k
  lt : ∀ k, B k → k < w.heap.size

def IsMgr (w : World) (m : Nat) (B : Nat → Prop) (p : Nat) (X : Int → Nat) (M : MgG) : Prop := ∃ tb dn D S, MgAt w m tb dn D X S B p M

theorem MgAt.same {w w' : World} {m tb : Nat} {dn : Value} {D : DataW Value} {X : Int → Nat} {S : Int → Nat → Prop} {B : Nat → Prop} {p : Nat} {M : MgG} (h : MgAt w m tb dn D X S B p M) (k : ∀ i, B i → w'.heap[i]? = w.heap[i]?) (hs : w.heap.size ≤ w'.heap.size) : MgAt w' m tb dn D X S B p M :=
  ⟨h.blk.same (k m h.bm), h.map.same (k tb h.bt), h.no, fun n t e => ⟨(h.yes n t e).1, (h.yes n t e).2.1, (h.yes n t e).2.2.1.same (fun i hi => k i (h.bs n (by rw [e]; exact Option.some_ne_none t) i hi)) hs, (h.yes n t e).2.2.2⟩, h.keys, ownsRow_same h.done fun g hg => k g (h.bd g hg), h.apart, h.off, h.dm, h.bm, h.bt, h.bd, h.bs, fun i hi => Nat.lt_of_lt_of_le (h.lt i hi) hs⟩

theorem IsMgr.same {w w' : World} {m : Nat} {B : Nat → Prop} {p : Nat} {X : Int → Nat} {M : MgG} (h : IsMgr w m B p X M) (k : ∀ i, B i → w'.heap[i]? = w.heap[i]?) (hs : w.heap.size ≤ w'.heap.size) : IsMgr w' m B p X M := by
  obtain ⟨tb, dn, D, S, h⟩ := h
  exact ⟨tb, dn, D, S, h.same k hs⟩

theorem IsMgr.lt {w : World} {m : Nat} {B : Nat → Prop} {p : Nat} {X : Int → Nat} {M : MgG} (h : IsMgr w m B p X M) {k : Nat} (hk : B k) : k < w.heap.size := by
  obtain ⟨tb, dn, D, S, h⟩ := h
  exact h.lt k hk

theorem MgAt.mt {w : World} {m tb : Nat} {dn : Value} {D : DataW Value} {X : Int → Nat} {S : Int → Nat → Prop} {B : Nat → Prop} {p : Nat} {M : MgG} (h : MgAt w m tb dn D X S B p M) : tb ≠ m := by
  rintro rfl
  obtain ⟨es, c, e⟩ := h.map.isMap
  have := h.blk
  unfold Blk at this
  rw [e] at this
  cases this

theorem MgAt.dt {w : World} {m tb : Nat} {dn : Value} {D : DataW Value} {X : Int → Nat} {S : Int → Nat → Prop} {B : Nat → Prop} {p : Nat} {M : MgG} (h : MgAt w m tb dn D X S B p M) : dn.ownBlock ≠ some tb := by
  intro e
  obtain ⟨es, c, q⟩ := h.map.isMap
  obtain ⟨cur, r⟩ := ownsRow_block h.done e
  rw [q] at r
  cases r

def MgG.set (M : MgG) (n : Int) (t : MtV) : MgG := { M with T := fun k => if k = n then some t else M.T k }

theorem MgAt.turn {w w' : World} {m tb : Nat} {dn : Value} {D : DataW Value} {X : Int → Nat} {S : Int → Nat → Prop} {B : Nat → Prop} {p : Nat} {M : MgG} (h : MgAt w m tb dn D X S B p M) {n : Int} {t t' : MtV} (ht : M.T n = some t) {S' : Nat → Prop} (h' : MtAt S' w' (X n) t') (htx : t'.tx = t.tx) (hm : Moves (S n) S' w w') :
    ∃ B', IsMgr w' m B' p X (M.set n t') ∧ Moves B B' w w' := by
  have hn : M.T n ≠ none := by rw [ht]; exact Option.some_ne_none t
  have hk : ∀ k, B k → ¬ S n k → w'.heap[k]? = w.heap[k]? := fun k hb hs => hm.1.block k (h.lt k hb) hs
  have hoff : ∀ k, k < w.heap.size → ¬ S n k → ¬ S' k := fun k hb hs => (hm.off hb hs).2
  have hSm : ¬ S n m := fun x => (h.off n hn m x).1 rfl
  have hSt : ¬ S n tb := fun x => (h.off n hn tb x).2.1 rfl
  have hSd : ∀ g, dn.ownBlock = some g → ¬ S n g := fun g e x => (h.off n hn g x).2.2 e
  have hne : ∀ k, (M.set n t').T k ≠ none → M.T k ≠ none := by
    intro k hh
    show M.T k ≠ none
    by_cases e : k = n
    · subst e; exact hn
    · have : (M.set n t').T k = M.T k := by simp [MgG.set, e]
      rw [this] at hh; exact hh
  refine ⟨fun k => (B k ∧ ¬ S n k) ∨ S' k, ⟨tb, dn, D, fun k => if k = n then S' else S k, ?_⟩, hm.1.mono (fun k x => h.bs n hn k x), ?_⟩
  · refine ⟨h.blk.same (hk m h.bm hSm), h.map.same (hk tb h.bt hSt), ?_, ?_, ?_, ownsRow_same h.done fun g e => hk g (h.bd g e) (hSd g e), ?_, ?_, h.dm, .inl ⟨h.bm, hSm⟩, .inl ⟨h.bt, hSt⟩, fun g e => .inl ⟨h.bd g e, hSd g e⟩, ?_, ?_⟩
    · intro k e
      by_cases q : k = n
      · simp [MgG.set, q] at e
      · have : (M.set n t').T k = M.T k := by simp [MgG.set, q]
        rw [this] at e; exact h.no k e
    · intro k x e
      by_cases q : k = n
      · subst q
        have hx : x = t' := by simp [MgG.set] at e; exact e.symm
        subst hx
        obtain ⟨a1, a2, a3, a4⟩ := h.yes k t ht
        refine ⟨a1, a2, ?_, by rw [htx]; exact a4⟩
        simpa using h'
      · have hT : (M.set n t').T k = M.T k := by simp [MgG.set, q]
        rw [hT] at e
        obtain ⟨a1, a2, a3, a4⟩ := h.yes k x e
        refine ⟨a1, a2, ?_, a4⟩
        simp only [if_neg q]
        have hkn : M.T k ≠ none := by rw [e]; exact Option.some_ne_none x
        exact a3.same (fun i hi => hk i (h.bs k hkn i hi) (fun y => h.apart k n q hkn hn i hi y)) hm.1.size
    · intro l hl
      obtain ⟨k, e, hh⟩ := h.keys l hl
      refine ⟨k, e, ?_⟩
      by_cases q : k = n
      · simp [MgG.set, q]
      · have hT : (M.set n t').T k = M.T k := by simp [MgG.set, q]
        rw [hT]; exact hh
    · intro k k' hkk h1 h2 i hi
      by_cases q : k = n
      · subst q
        simp only [if_true] at hi
        simp only [if_neg (Ne.symm hkk)]
        intro y
        have h2' := hne k' h2
        have hlt := h.lt i (h.bs k' h2' i y)
        exact hoff i hlt (fun z => h.apart k k' hkk hn h2' i z y) hi
      · simp only [if_neg q] at hi
        have h1' := hne k h1
        have hlt := h.lt i (h.bs k h1' i hi)
        by_cases q' : k' = n
        · subst q'
          simp only [if_true]
          exact hoff i hlt (fun z => h.apart k k' hkk h1' hn i hi z)
        · simp only [if_neg q']
          exact h.apart k k' hkk h1' (hne k' h2) i hi
    · intro k h1 i hi
      by_cases q : k = n
      · subst q
        simp only [if_true] at hi
        refine ⟨?_, ?_, ?_⟩
        · rintro rfl; exact hoff _ (h.lt _ h.bm) hSm hi
        · rintro rfl; exact hoff _ (h.lt _ h.bt) hSt hi
        · intro e; exact hoff _ (h.lt _ (h.bd _ e)) (hSd _ e) hi
      · simp only [if_neg q] at hi
        exact h.off k (hne k h1) i hi
    · intro k h1 i hi
      by_cases q : k = n
      · subst q; simp only [if_true] at hi; exact .inr hi
      · simp only [if_neg q] at hi
        have h1' := hne k h1
        exact .inl ⟨h.bs k h1' i hi, fun y => h.apart k n q h1' hn i hi y⟩
    · rintro k (⟨x, _⟩ | x)
      · exact Nat.lt_of_lt_of_le (h.lt k x) hm.1.size
      · exact h'.lt k x
  · rintro k (⟨x, _⟩ | x)
    · exact .inl x
    · rcases hm.2 k x with y | y
      · exact .inl (h.bs n hn k y)
      · exact .inr y

structure MSys (w : World) (m p : Nat) (X : Int → Nat) (A : Nat → Prop) (P : PG) (l : LG) (d : DG) (M : MgG) : Prop where
  ex : ∃ A1 B, Sys w p A1 P l d ∧ IsMgr w m B p X M ∧ (∀ k, A1 k → ¬ B k) ∧ ∀ k, A1 k ∨ B k → A k
  lt : ∀ k, A k → k < w.heap.size

section
variable {w : World} {m p : Nat} {X : Int → Nat} {A : Nat → Prop} {P : PG} {l : LG} {d : DG} {M : MgG}

theorem MSys.same {w' : World} (h : MSys w m p X A P l d M) (k : ∀ i, A i → w'.heap[i]? = w.heap[i]?) (hs : w.heap.size ≤ w'.heap.size) : MSys w' m p X A P l d M := by
  obtain ⟨⟨A1, B, h1, h2, h3, h4⟩, h5⟩ := h
  exact ⟨⟨A1, B, h1.same (fun i hi => k i (h4 i (.inl hi))) hs, h2.same (fun i hi => k i (h4 i (.inr hi))) hs, h3, h4⟩, fun i hi => Nat.lt_of_lt_of_le (h5 i hi) hs⟩

theorem MSys.below {w' : World} (h : MSys w m p X A P l d M) (k : Below w.heap.size w w') : MSys w' m p X A P l d M := h.same (fun i hi => k.block i (h.lt i hi)) k.size

theorem MSys.sys (h : MSys w m p X A P l d M) : ∃ A1, Sys w p A1 P l d ∧ (∀ k, A1 k → A k) ∧ ∀ w' A1' P' l' d', Sys w' p A1' P' l' d' → Moves A1 A1' w w' → ∃ A', MSys w' m p X A' P' l' d' M ∧ Moves A A' w w' := by
  obtain ⟨⟨A1, B, h1, h2, h3, h4⟩, h5⟩ := h
  refine ⟨A1, h1, fun k x => h4 k (.inl x), fun w' A1' P' l' d' hs hm => ?_⟩
  have hk : ∀ k, B k → w'.heap[k]? = w.heap[k]? ∧ ¬ A1' k := fun k hb => hm.off (h2.lt hb) fun x => h3 k x hb
  refine ⟨fun k => A1' k ∨ B k, ⟨⟨A1', B, hs, h2.same (fun i hi => (hk i hi).1) hm.1.size, fun k a b => (hk k b).2 a, fun _ x => x⟩, ?_⟩, hm.1.mono fun k x => h4 k (.inl x), ?_⟩
  · rintro k (x | x)
    · exact hs.lt k x
    · exact Nat.lt_of_lt_of_le (h2.lt x) hm.1.size
  · rintro k (x | x)
    · rcases hm.2 k x with y | y
      · exact .inl (h4 k (.inl y))
      · exact .inr y
    · exact .inl (h4 k (.inr x))

theorem MSys.mgr (h : MSys w m p X A P l d M) : ∃ B, IsMgr w m B p X M ∧ (∀ k, B k → A k) ∧ ∀ w' B' X' M', IsMgr w' m B' p X' M' → Moves B B' w w' → ∃ A', MSys w' m p X' A' P l d M' ∧ Moves A A' w w' := by
  obtain ⟨⟨A1, B, h1, h2, h3, h4⟩, h5⟩ := h
  refine ⟨B, h2, fun k x => h4 k (.inr x), fun w' B' X' M' hs hm => ?_⟩
  have hk : ∀ k, A1 k → w'.heap[k]? = w.heap[k]? ∧ ¬ B' k := fun k ha => hm.off (h1.lt k ha) fun x => h3 k ha x
  refine ⟨fun k => A1 k ∨ B' k, ⟨⟨A1, B', h1.same (fun i hi => (hk i hi).1) hm.1.size, hs, fun k a b => (hk k a).2 b, fun _ x => x⟩, ?_⟩, hm.1.mono fun k x => h4 k (.inr x), ?_⟩
  · rintro k (x | x)
    · exact Nat.lt_of_lt_of_le (h1.lt k x) hm.1.size
    · exact hs.lt x
  · rintro k (x | x)
    · exact .inl (h4 k (.inl x))
    · rcases hm.2 k x with y | y
      · exact .inl (h4 k (.inr y))
      · exact .inr y

theorem MSys.tx (h : MSys w m p X A P l d M) {n : Int} {t : MtV} (ht : M.T n = some t) : ∃ S, MtAt S w (X n) t ∧ (∀ k, S k → A k) ∧ ∀ w' S' t', MtAt S' w' (X n) t' → t'.tx = t.tx → Moves S S' w w' → ∃ A', MSys w' m p X A' P l d (M.set n t') ∧ Moves A A' w w' := by
  obtain ⟨B, ⟨tb, dn, D, S, hM⟩, hB, step⟩ := h.mgr
  obtain ⟨_, _, hT, _⟩ := hM.yes n t ht
  refine ⟨S n, hT, fun k x => hB k (hM.bs n (by rw [ht]; exact Option.some_ne_none t) k x), fun w' S' t' h' htx hm => ?_⟩
  obtain ⟨B', h1, h2⟩ := hM.turn ht h' htx hm
  exact step w' B' X _ h1 h2

end

end Go.Proofs.YtdhphbokkmofaaaGreat

namespace Go.Proofs.YtdhphbokkmofaaaGreat
open Go.RowKit Go.Sort

def RisesD (L : List DbV) : Prop := ∀ i j (hj : j < L.length) (h : i < j), (L[i]'(by omega)).lsn < L[j].lsn

def standN (L : List DbV) (x : Nat) : Nat := (L.takeWhile fun q => decide (q.lsn ≤ x)).length

theorem stand_of {L : List DbV} {x k : Nat} (hk : k ≤ L.length) (h1 : ∀ i (hi : i < L.length), i < k → L[i].lsn ≤ x) (h2 : ∀ i (hi : i < L.length), k ≤ i → x < L[i].lsn) : standN L x = k := by
  induction L generalizing k with
  | nil => simp at hk; subst hk; rfl
  | cons q L ih =>
    unfold standN
    cases k with
    | zero =>
      have := h2 0 (by simp) (by omega)
      simp only [List.getElem_cons_zero] at this
      rw [List.takeWhile_cons_of_neg (by simp; omega)]
      rfl
    | succ k =>
      have := h1 0 (by simp) (by omega)
      simp only [List.getElem_cons_zero] at this
      rw [List.takeWhile_cons_of_pos (by simp; omega), List.length_cons]
      congr 1
      exact ih (k := k) (by simpa using hk) (fun i hi hik => by have := h1 (i + 1) (by simpa using hi) (by omega); simpa using this) (fun i hi hik => by have := h2 (i + 1) (by simpa using hi) (by omega); simpa using this)

theorem stand_le (L : List DbV) (x : Nat) : standN L x ≤ L.length := by
  unfold standN
  exact (List.takeWhile_prefix _).length_le

theorem debts_len (L : List DbV) : (L.flatMap DbV.enc).length = L.length * 2 := by
  induction L with
  | nil => rfl
  | cons x L ih => simp only [List.flatMap_cons, List.length_append, ih, List.length_cons, DbV.enc, List.length_nil]; omega

theorem debts_get : ∀ (L : List DbV) (i : Nat) (hi : i < L.length) (j : Nat) (u : Value), (DbV.enc L[i])[j]? = some u → (L.flatMap DbV.enc)[i * 2 + j]? = some u
  | x :: L, 0, _, j, u, hu => by
    simp only [List.getElem_cons_zero] at hu
    rw [List.flatMap_cons, Nat.zero_mul, Nat.zero_add, List.getElem?_append_left (List.getElem?_eq_some_iff.1 hu).1]
    exact hu
  | x :: L, i + 1, hi, j, u, hu => by
    simp only [List.getElem_cons_succ] at hu
    rw [List.flatMap_cons, List.getElem?_append_right (by simp [DbV.enc]; omega), show (i + 1) * 2 + j - (DbV.enc x).length = i * 2 + j by simp [DbV.enc]; omega]
    exact debts_get L i (by simpa using hi) j u hu

theorem DebtsAt.cell {w : World} {dv : Value} {L : List DbV} (h : DebtsAt w dv L) : ∃ a c, dv = .slice a L.length c ∧ L.length ≤ c ∧ c ≤ maxLen ∧ ∀ i (hi : i < L.length), ∃ g, a = some ⟨g, 0, none⟩ ∧ g < w.heap.size ∧ w.cell? ⟨g, i * 2, none⟩ = some (.int .u64 L[i].lsn) ∧ w.cell? ⟨g, i * 2 + 1, none⟩ = some (.int .i64 L[i].room) := by
  rcases h.2 with ⟨e, q⟩ | ⟨g, cap, cur, e, h1, h2, h3, h4, h5, h6⟩
  · have hL : L = [] := by
      cases L with
      | nil => rfl
      | cons x L => simp at q
    subst hL
    exact ⟨none, 0, e, by simp, by unfold maxLen; omega, fun i hi => by simp at hi⟩
  · refine ⟨_, cap, e, h3, h4, fun i hi => ⟨g, rfl, (Array.getElem?_eq_some_iff.1 h2).1, ?_, ?_⟩⟩
    · have := debts_get L i hi 0 _ rfl
      rw [← h6, List.getElem?_take, if_pos (by omega)] at this
      unfold World.cell?
      simp only [h2]
      simpa using this
    · have := debts_get L i hi 1 _ rfl
      rw [← h6, List.getElem?_take, if_pos (by omega)] at this
      unfold World.cell?
      simp only [h2]
      simpa using this

set_option maxHeartbeats 1600000 in
set_option maxRecDepth 60000 in
theorem standing1_any (B C b : Nat) (x k : Nat) (L : List DbV) (a : Option Addr) (c : Nat) (w : World) (hk : k < L.length) (hB : w.cell? ⟨B, 0, none⟩ = some (.pointer (some ⟨b, 0, none⟩))) (hC : w.cell? ⟨C, 0, none⟩ = some (.int .u64 x)) (h6 : w.cell? ⟨b, 6, none⟩ = some (.slice a L.length c)) (hL : ∀ i (hi : i < L.length), ∃ g, a = some ⟨g, 0, none⟩ ∧ w.cell? ⟨g, i * 2, none⟩ = some (.int .u64 L[i].lsn)) :
    Calls Tryz.prog 160 #[.int .i64 k, .pointer (some ⟨B, 0, none⟩), .pointer (some ⟨C, 0, none⟩)] w fun r w' => r = .returned (.bool (decide (x < L[k].lsn))) ∧ ∃ q, w' = w.drewN q := by
  obtain ⟨g, rfl, hc⟩ := hL k hk
  clear hL
  generalize L[k].lsn = y at *
  have h0 : (0 : Int) ≤ (k : Int) := by omega
  have h1 : (k : Int) < (L.length : Int) := by omega
  go_enter Tryz.func160, Tryz.ntmps160
  go_wp2
  go_quiet (fail)
  go_wp2
  go_ret
  exact ⟨by simp, _, rfl⟩

set_option maxHeartbeats 2000000 in
set_option maxRecDepth 100000 in
theorem search_stand (B C b x : Nat) (L : List DbV) (a : Option Addr) (c : Nat) (w : World) (hB : w.cell? ⟨B, 0, none⟩ = some (.pointer (some ⟨b, 0, none⟩))) (hC : w.cell? ⟨C, 0, none⟩ = some (.int .u64 x)) (h6 : w.cell? ⟨b, 6, none⟩ = some (.slice a L.length c)) (hL : ∀ i (hi : i < L.length), ∃ g, a = some ⟨g, 0, none⟩ ∧ w.cell? ⟨g, i * 2, none⟩ = some (.int .u64 L[i].lsn)) (hr : RisesD L) (hn : L.length ≤ 10000000) :
    Calls Tryz.prog 159 #[.int .i64 L.length, .func (.func 160) #[] #[.pointer (some ⟨B, 0, none⟩), .pointer (some ⟨C, 0, none⟩)]] w fun r w' => r = .returned (.int .i64 (standN L x)) ∧ ∃ q, w' = w.drewN q := by
  have HR := hidx hr
  obtain ⟨R, HRR⟩ : ∃ R, Hid (standN L x = R) := ⟨_, rfl⟩
  rw [HRR.out]
  have HS : Hid (∀ k (hk : k < L.length) q, Calls Tryz.prog 160 #[.int .i64 k, .pointer (some ⟨B, 0, none⟩), .pointer (some ⟨C, 0, none⟩)] (w.drewN q) fun r w' => r = .returned (.bool (decide (x < L[k].lsn))) ∧ ∃ q, w' = w.drewN q) := fun k hk q =>
    (standing1_any B C b x k L a c (w.drewN q) hk hB hC h6 hL).mono fun r w' h => ⟨h.1, by obtain ⟨q', e⟩ := h.2; exact ⟨q + q', by rw [e, World.drewN_drewN]⟩⟩
  clear hB hC h6 hL hr
  obtain ⟨n, Hnn⟩ : ∃ n, Hid (L.length = n) := ⟨_, rfl⟩
  rw [Hnn.out] at hn ⊢
  go_enter Tryz.func159, Tryz.ntmps159
  go_wp2
  go_loopg [5, 6] n (fun m s5 s6 wr => ∃ lo hi q : Nat, s5 = .int .i64 lo ∧ s6 = .int .i64 hi ∧ lo ≤ hi ∧ hi ≤ n ∧ hi - lo ≤ m ∧ wr = w.drewN q ∧ Hid ((∀ t (ht : t < L.length), t < lo → L[t].lsn ≤ x) ∧ (∀ t (ht : t < L.length), hi ≤ t → x < L[t].lsn)))
  case atStart => exact ⟨0, n, 0, rfl, rfl, Nat.zero_le _, Nat.le_refl _, by omega, rfl, hidx ⟨fun t _ ht => absurd ht (Nat.not_lt_zero _), fun t h1 h2 => by have := Hnn.out; omega⟩⟩
  case round =>
    obtain ⟨lo, hi, q, rfl, rfl, hlh, hin, hg, rfl, I⟩ := hrel
    by_cases hlt : lo < hi
    · have hkl : (lo + hi) / 2 < L.length := by have := Hnn.out; omega
      have HC := hidx (HS.out _ hkl q)
      obtain ⟨y, Y⟩ : ∃ y, Hid (L[(lo + hi) / 2].lsn = y) := ⟨L[(lo + hi) / 2].lsn, rfl⟩
      rw [Y.out] at HC
      obtain ⟨bb, Hbb⟩ : ∃ bb, Hid (decide (x < y) = bb) := ⟨_, rfl⟩
      rw [Hbb.out] at HC
      cases bb with
      | false =>
        have hyx := hidx (of_decide_eq_false Hbb.out)
        clear Hbb
        go_wp2_with fail
        rw [show ((lo : Int) + (hi : Int)) / 2 = (((lo + hi) / 2 : Nat) : Int) by omega]
        refine HC.out.mono ?_
        rintro r w1 ⟨rfl, q1, rfl⟩
        go_wp2
        go_roundg (hi - ((lo + hi) / 2 + 1))
        case measure => omega
        case rel =>
          refine ⟨(lo + hi) / 2 + 1, hi, _, by go_num, rfl, by omega, hin, Nat.le_refl _, rfl, hidx ⟨fun t ht ht' => ?_, I.out.2⟩⟩
          have h1 := Y.out
          have h2 := hyx.out
          by_cases e : t = (lo + hi) / 2
          · subst e; omega
          · have := HR.out t ((lo + hi) / 2) hkl (by omega); omega
      | true =>
        have hyx := hidx (of_decide_eq_true Hbb.out)
        clear Hbb
        go_wp2_with fail
        rw [show ((lo : Int) + (hi : Int)) / 2 = (((lo + hi) / 2 : Nat) : Int) by omega]
        refine HC.out.mono ?_
        rintro r w1 ⟨rfl, q1, rfl⟩
        go_wp2
        go_roundg ((lo + hi) / 2 - lo)
        case measure => omega
        case rel =>
          refine ⟨lo, (lo + hi) / 2, _, rfl, by first | rfl | go_num, by omega, by omega, Nat.le_refl _, rfl, hidx ⟨I.out.1, fun t ht ht' => ?_⟩⟩
          have h1 := Y.out
          have h2 := hyx.out
          by_cases e : t = (lo + hi) / 2
          · subst e; omega
          · have := HR.out ((lo + hi) / 2) t ht (by omega); omega
    · have : hi = lo := by omega
      subst this
      have hR := stand_of (x := x) (L := L) (k := hi) (by have := Hnn.out; omega) I.out.1 I.out.2
      have hRR := hidx (hR.symm.trans HRR.out)
      clear hR
      go_wp2
      go_ret
      exact ⟨xret_int (by rw [hRR.out]), _, rfl⟩

theorem MtAt.reads {S : Nat → Prop} {w : World} {b : Nat} {t : MtV} (h : MtAt S w b t) : ∃ a c, w.cell? ⟨b, 6, none⟩ = some (.slice a t.debts.length c) ∧ t.debts.length ≤ c ∧ c ≤ maxLen ∧ (∀ i (hi : i < t.debts.length), ∃ g, a = some ⟨g, 0, none⟩ ∧ g < w.heap.size ∧ w.cell? ⟨g, i * 2, none⟩ = some (.int .u64 t.debts[i].lsn) ∧ w.cell? ⟨g, i * 2 + 1, none⟩ = some (.int .i64 t.debts[i].room)) ∧ b < w.heap.size := by
  obtain ⟨⟨dv, h1, h2, h3⟩, h4, h5⟩ := h
  obtain ⟨a, c, rfl, k1, k2, k3⟩ := h2.cell
  exact ⟨a, c, h1.cell 6, k1, k2, k3, h1.lt⟩

set_option maxHeartbeats 1600000 in
set_option maxRecDepth 60000 in
theorem standing_any {S : Nat → Prop} {w : World} {b : Nat} {t : MtV} (h : MtAt S w b t) (hr : RisesD t.debts) (hn : t.debts.length ≤ 10000000) (x : Nat) :
    Calls Tryz.prog 99 #[.pointer (some ⟨b, 0, none⟩), .int .u64 x] w fun r w' => r = .returned (.int .i64 (standN t.debts x)) ∧ Below w.heap.size w w' := by
  obtain ⟨a, c, k1, k2, k3, k4, k5⟩ := h.reads
  have hmf : ∀ (fn : Fn) (first cap : Array Value) (w : World), (Instr.makeFunc fn first cap).run Tryz.prog w = .ok (.func fn first cap) w := fun _ _ _ _ => rfl
  obtain ⟨W1, HW1⟩ : ∃ W, Hid (W = w.alloc (.cells #[.pointer (some ⟨b, 0, none⟩)] 97)) := ⟨_, rfl⟩
  have b1 : Below w.heap.size w W1 := by rw [HW1.out]; exact (Below.refl _ _).alloc (Nat.le_refl _) _
  have x1 : Blk W1 w.heap.size #[.pointer (some ⟨b, 0, none⟩)] 97 := by rw [HW1.out]; exact Blk.made _ _ _
  have z1 : W1.heap.size = w.heap.size + 1 := by rw [HW1.out]; simp
  obtain ⟨W2, HW2⟩ : ∃ W, Hid (W = W1.alloc (.cells #[.int .u64 x] 41)) := ⟨_, rfl⟩
  have b2 : Below W1.heap.size W1 W2 := by rw [HW2.out]; exact (Below.refl _ _).alloc (Nat.le_refl _) _
  have x2 : Blk W2 W1.heap.size #[.int .u64 x] 41 := by rw [HW2.out]; exact Blk.made _ _ _
  have bb := below_chain b1 b2
  have h2 := h.same (w' := W2) (fun i hi => bb.block i (h.lt i hi)) bb.size
  obtain ⟨a', c', q1, q2, q3, q4, q5⟩ := h2.reads
  have HS := hidx (search_stand w.heap.size W1.heap.size b x t.debts a' c' W2 ((x1.same (b2.block _ x1.lt)).cell 0) (x2.cell 0) q1 (fun i hi => by obtain ⟨g, e, _, e2, _⟩ := q4 i hi; exact ⟨g, e, e2⟩) hr hn)
  have HB := hidx bb
  rw [show W1.heap.size = w.heap.size + 1 from z1] at HS
  have q1' := q1
  have p1 : W2.cell? ⟨w.heap.size, 0, none⟩ = some (.pointer (some ⟨b, 0, none⟩)) := (x1.same (b2.block _ x1.lt)).cell 0
  have HZ := hidx z1
  clear k1 k2 k3 k4 q2 q3 q4 q5 h2 b1 b2 bb x1 x2 hr h z1 q1
  go_enter Tryz.func99, Tryz.ntmps99
  go_upto_region 1 with fail
  rw [← HW1.out, ← HW2.out]
  clear HW1 HW2
  go_wp2_with fail
  refine HS.out.mono ?_
  rintro r w3 ⟨rfl, q, rfl⟩
  go_wp2
  go_ret
  exact ⟨rfl, by show RowKit.Below _ _ _; exact below_drewN HB.out _⟩

def owedN (L : List DbV) (n : Nat) : Nat := if n = 0 then 0 else (L[n - 1]?.map DbV.room).getD 0

set_option maxHeartbeats 1600000 in
set_option maxRecDepth 60000 in
theorem owed_any {S : Nat → Prop} {w : World} {b : Nat} {t : MtV} (h : MtAt S w b t) (n : Nat) (hn : n ≤ t.debts.length) :
    Calls Tryz.prog 98 #[.pointer (some ⟨b, 0, none⟩), .int .i64 n] w fun r w' => r = .returned (.int .i64 (owedN t.debts n)) ∧ w = w' := by
  obtain ⟨a, c, k1, k2, k3, k4, k5⟩ := h.reads
  unfold owedN
  by_cases h0 : n = 0
  · subst h0
    clear k4 k1
    go_enter Tryz.func98, Tryz.ntmps98
    go_wp2
    go_ret
    exact ⟨rfl, rfl⟩
  · obtain ⟨k, rfl⟩ : ∃ k, n = k + 1 := ⟨n - 1, by omega⟩
    have hlt : k < t.debts.length := by omega
    obtain ⟨g, rfl, _, _, k6⟩ := k4 k hlt
    rw [if_neg h0, Nat.add_sub_cancel, List.getElem?_eq_getElem hlt, Option.map_some, Option.getD_some]
    generalize t.debts[k].room = y at *
    have h2 : (0 : Int) ≤ (k : Int) := by omega
    have h3 : (k : Int) < (t.debts.length : Int) := by omega
    have h1 : ((k : Int) + 1 == 0) = false := by rw [beq_eq_false_iff_ne]; omega
    have h5 : (k : Int) ≤ 9223372036854775806 := by unfold maxLen at k3; omega
    rw [show ((k + 1 : Nat) : Int) = (k : Int) + 1 by omega]
    clear k4 h h0 hn k2 k3
    go_enter Tryz.func98, Tryz.ntmps98
    go_wp2
    go_ret
    exact ⟨rfl, rfl⟩

set_option maxHeartbeats 1600000 in
set_option maxRecDepth 60000 in
theorem owes_any {S : Nat → Prop} {w : World} {b : Nat} {t : MtV} (h : MtAt S w b t) (hr : RisesD t.debts) (hn : t.debts.length ≤ 10000000) (x : Nat) :
    Calls Tryz.prog 40 #[.pointer (some ⟨b, 0, none⟩), .int .u64 x] w fun r w' => r = .returned (.int .i64 (owedN t.debts (standN t.debts x))) ∧ Below w.heap.size w w' := by
  have HS := hidx (standing_any h hr hn x)
  have HT := hidx h
  have HL := hidx (stand_le t.debts x)
  clear h hr
  generalize standN t.debts x = k at *
  go_enter Tryz.func40, Tryz.ntmps40
  go_wp2_with fail
  refine HS.out.mono ?_
  rintro r w1 ⟨rfl, b1⟩
  have HO := hidx (owed_any (HT.out.same (fun i hi => b1.block i (HT.out.lt i hi)) b1.size) k HL.out)
  go_wp2_with fail
  refine HO.out.mono ?_
  rintro r w2 ⟨rfl, rfl⟩
  go_wp2
  go_ret
  exact ⟨rfl, b1⟩

def wayN (t : MtV) (st : Int) (o : Nat) : Nat := if t.begun then (if st = 1 then o + 50 else o + 25) else 0

set_option maxHeartbeats 1600000 in
set_option maxRecDepth 60000 in
theorem wayBack_any {S : Nat → Prop} {w : World} {b : Nat} {t : MtV} (h : MtAt S w b t) (st : Int) (o : Nat) (ho : o ≤ 1000000000) :
    Calls Tryz.prog 39 #[.pointer (some ⟨b, 0, none⟩), .int .i64 st, .int .i64 o] w fun r w' => r = .returned (.int .i64 (wayN t st o)) ∧ w = w' := by
  obtain ⟨⟨dv, h1, _, _⟩, _, _⟩ := h
  have c4 : w.cell? ⟨b, 4, none⟩ = some (.bool t.begun) := h1.cell 4
  unfold wayN
  clear h1
  cases hb : t.begun with
  | false =>
    rw [hb] at c4
    simp only [Bool.false_eq_true, if_false]
    clear hb
    go_enter Tryz.func39, Tryz.ntmps39
    go_wp2
    go_ret
    exact ⟨rfl, rfl⟩
  | true =>
    rw [hb] at c4
    simp only [if_true]
    clear hb
    by_cases hs : st = 1
    · subst hs
      rw [if_pos rfl]
      go_enter Tryz.func39, Tryz.ntmps39
      go_wp2
      go_ret
      exact ⟨xret_int (by omega), rfl⟩
    · rw [if_neg hs]
      go_enter Tryz.func39, Tryz.ntmps39
      go_wp2
      go_ret
      exact ⟨xret_int (by omega), rfl⟩

end Go.Proofs.YtdhphbokkmofaaaGreat

namespace Go.Proofs.YtdhphbokkmofaaaGreat
open Go.RowKit Go.Sort

theorem zeroTx (w : World) : (zeroValue 97).run Tryz.prog w = .ok (.pointer none) w := by kernel_rfl

section
variable {w : World} {m p : Nat} {X : Int → Nat} {A : Nat → Prop} {P : PG} {l : LG} {d : DG} {M : MgG}

theorem MSys.log (h : MSys w m p X A P l d M) : ∃ L, IsLog w P.lp L l ∧ (∀ k, L k → A k) ∧ ∀ w' L' l', IsLog w' P.lp L' l' → l'.dp = l.dp → Moves L L' w w' → ∃ A', MSys w' m p X A' P l' d M ∧ Moves A A' w w' := by
  obtain ⟨A1, h1, h2, h3⟩ := h.sys
  obtain ⟨L, k1, k2, k3⟩ := h1.log
  refine ⟨L, k1, fun k x => h2 k (k2 k x), fun w' L' l' e1 e2 e3 => ?_⟩
  obtain ⟨A1', q1, q2⟩ := k3 w' L' l' e1 e2 e3
  exact h3 w' A1' P l' d q1 q2

theorem MSys.reads (h : MSys w m p X A P l d M) : ∃ tb, w.cell? ⟨m, 0, none⟩ = some (.pointer (some ⟨p, 0, none⟩)) ∧ w.cell? ⟨m, 1, none⟩ = some (.map (some tb)) ∧ w.cell? ⟨m, 2, none⟩ = some (.int .i64 M.next) ∧ w.cell? ⟨p, 1, none⟩ = some (.pointer (some ⟨P.lp, 0, none⟩)) ∧
    ∀ n : Int, -9223372036854775808 ≤ n → n ≤ 9223372036854775807 → (Instr.lookup 125 (.map (some tb)) (.int .i64 n) true).run Tryz.prog w = .ok (.tuple #[if (M.T n).isSome then .pointer (some ⟨X n, 0, none⟩) else .pointer none, .bool (M.T n).isSome]) w := by
  obtain ⟨⟨A1, B, ⟨⟨S1, L, Dk, hP, _, _, _⟩, _, _⟩, ⟨tb, dn, D, S, hM⟩, _, _⟩, _⟩ := h
  obtain ⟨fb, pv, Dp, hP⟩ := hP
  refine ⟨tb, hM.blk.cell 0, hM.blk.cell 1, hM.blk.cell 2, hP.cells.c1, fun n h1 h2 => ?_⟩
  rw [hM.map.lookOk xKeyed Tryz.underlying125 (zeroTx w) (xkey_key h1 h2)]
  cases e : M.T n with
  | none =>
    rw [hM.no n e, getV_none (hM.no n e)]
    rfl
  | some t =>
    obtain ⟨a1, a2, _, _⟩ := hM.yes n t e
    unfold zeroT at a2
    rw [a1, a2]
    rfl

set_option maxHeartbeats 1600000 in
set_option maxRecDepth 20000 in
theorem find_yes (h : MSys w m p X A P l d M) (n : Int) (h1 : -9223372036854775808 ≤ n) (h2 : n ≤ 9223372036854775807) {t : MtV} (ht : M.T n = some t) :
    Calls Tryz.prog 37 #[.pointer (some ⟨m, 0, none⟩), .int .i64 n] w fun r w' => r = .returned (.tuple #[.pointer (some ⟨X n, 0, none⟩), .int .i64 0]) ∧ w = w' := by
  obtain ⟨tb, c0, c1, c2, c3, hl⟩ := h.reads
  replace hl := hl n h1 h2
  rw [ht] at hl
  simp only [Option.isSome_some, if_true] at hl
  clear h ht
  go_enter Tryz.func37, Tryz.ntmps37
  go_wp2
  go_ret2
  exact ⟨rfl, rfl⟩

set_option maxHeartbeats 1600000 in
set_option maxRecDepth 20000 in
theorem plog_any {w : World} {p lp : Nat} (c1 : w.cell? ⟨p, 1, none⟩ = some (.pointer (some ⟨lp, 0, none⟩))) :
    Calls Tryz.prog 118 #[.pointer (some ⟨p, 0, none⟩)] w fun r w' => r = .returned (.pointer (some ⟨lp, 0, none⟩)) ∧ w = w' := by
  go_enter Tryz.func118, Tryz.ntmps118
  go_wp2
  go_ret
  exact ⟨rfl, rfl⟩

set_option maxHeartbeats 1600000 in
set_option maxRecDepth 20000 in
theorem mlog_any (h : MSys w m p X A P l d M) :
    Calls Tryz.prog 56 #[.pointer (some ⟨m, 0, none⟩)] w fun r w' => r = .returned (.pointer (some ⟨P.lp, 0, none⟩)) ∧ w = w' := by
  obtain ⟨tb, c0, c1, c2, c3, _⟩ := h.reads
  have HL := hidx (plog_any c3)
  clear h c1 c2 c3
  go_enter Tryz.func56, Tryz.ntmps56
  go_wp2_with fail
  refine HL.out.mono ?_
  rintro r w1 ⟨rfl, rfl⟩
  go_wp2
  go_ret
  exact ⟨rfl, rfl⟩

end

end Go.Proofs.YtdhphbokkmofaaaGreat

namespace Go.Proofs.YtdhphbokkmofaaaGreat
open Go.RowKit Go.Sort

theorem MgG.set_self {M : MgG} {n : Int} {t : MtV} (h : M.T n = some t) : M.set n t = M := by
  unfold MgG.set
  have : (fun k => if k = n then some t else M.T k) = M.T := by
    funext k
    by_cases e : k = n
    · rw [if_pos e, e, h]
    · rw [if_neg e]
  rw [this]

theorem MgG.set_get (M : MgG) (n : Int) (t : MtV) : (M.set n t).T n = some t := by simp [MgG.set]

theorem MgG.set_set (M : MgG) (n : Int) (t t' : MtV) : (M.set n t).set n t' = M.set n t' := by
  unfold MgG.set
  simp only [MgG.mk.injEq, and_true]
  funext k
  by_cases e : k = n <;> simp [e]

theorem MtAt.put {S : Nat → Prop} {w : World} {b : Nat} {t t' : MtV} (h : MtAt S w b t) (i : Nat) (v : Value) (hd : t'.debts = t.debts) (hc : ∀ dv, (t.cells dv).setIfInBounds i v = t'.cells dv) : MtAt S (w.setCell ⟨b, i, none⟩ v) b t' ∧ Moves S S w (w.setCell ⟨b, i, none⟩ v) := by
  obtain ⟨⟨dv, h1, h2, h3⟩, h4, h5⟩ := h
  have hk := Kept.setCell S w b i v h4
  refine ⟨⟨⟨dv, ?_, ?_, h3⟩, h4, fun k x => Nat.lt_of_lt_of_le (h5 k x) hk.size⟩, Moves.of_kept hk⟩
  · rw [← hc dv]; exact h1.set i v
  · rw [hd]
    refine ownsRow_same h2 fun g hg => ?_
    have hne := (h3 g hg).2
    simp [World.setCell, Array.getElem?_modify, Ne.symm hne]

structure MtCells (w : World) (b : Nat) (t : MtV) : Prop where
  c0 : w.cell? ⟨b, 0, none⟩ = some (.int .i64 t.tx)
  c1 : w.cell? ⟨b, 1, none⟩ = some (.int .i64 t.state)
  c2 : w.cell? ⟨b, 2, none⟩ = some (.int .u64 t.last)
  c3 : w.cell? ⟨b, 3, none⟩ = some (.int .u64 t.next)
  c4 : w.cell? ⟨b, 4, none⟩ = some (.bool t.begun)
  c5 : w.cell? ⟨b, 5, none⟩ = some (.int .i64 t.kept)
  fr : ∀ i, w.frozen? ⟨b, i, none⟩ = false

theorem MtAt.cells {S : Nat → Prop} {w : World} {b : Nat} {t : MtV} (h : MtAt S w b t) : MtCells w b t := by
  obtain ⟨⟨dv, h1, h2, h3⟩, h4, h5⟩ := h
  exact ⟨h1.cell 0, h1.cell 1, h1.cell 2, h1.cell 3, h1.cell 4, h1.cell 5, h1.frozen⟩

def coverL (l : LG) (t : MtV) (room : Nat) : LG := { l with kept := l.kept + (room - t.kept) }
def coverT (t : MtV) (room : Nat) : MtV := { t with kept := t.kept + (room - t.kept) }

section
variable {w : World} {m p : Nat} {X : Int → Nat} {A : Nat → Prop} {P : PG} {l : LG} {d : DG} {M : MgG}

set_option maxHeartbeats 1600000 in
set_option maxRecDepth 20000 in
theorem cover_any (h : MSys w m p X A P l d M) {n : Int} {t : MtV} (ht : M.T n = some t) (room : Nat) (hr : room ≤ 1000000000) (hk : t.kept ≤ 1000000000) (hb : l.bytes.length ≤ 4194304) (hl : l.kept ≤ 4194304) (hm : room ≤ t.kept ∨ l.kept + (room - t.kept) + l.bytes.length ≤ 4194304) :
    Calls Tryz.prog 157 #[.pointer (some ⟨m, 0, none⟩), .pointer (some ⟨X n, 0, none⟩), .int .i64 room] w fun r w' => r = .returned (.int .i64 0) ∧ ∃ A', MSys w' m p X A' P (coverL l t room) d (M.set n (coverT t room)) ∧ Moves A A' w w' := by
  obtain ⟨S, hT, hSA, step⟩ := h.tx ht
  have c5 := hT.cells.c5
  by_cases hle : room ≤ t.kept
  · have e0 : room - t.kept = 0 := by omega
    have HF : Hid (MSys w m p X A P (coverL l t room) d (M.set n (coverT t room))) := by
      have e1 : coverL l t room = l := by unfold coverL; rw [e0]; rfl
      have e2 : coverT t room = t := by unfold coverT; rw [e0]; rfl
      rw [e1, e2, MgG.set_self ht]
      exact h
    have d1 : decide ((room : Int) - (t.kept : Int) ≤ 0) = true := by simp; omega
    have w1 : IntKind.i64.wrap ((room : Int) - (t.kept : Int)) = (room : Int) - (t.kept : Int) := by rw [IntKind.wrap_i64]; omega
    clear h hT step hSA hm e0
    go_enter Tryz.func157, Tryz.ntmps157
    go_wp2
    go_ret
    exact ⟨rfl, A, HF.out, Moves.refl _ _⟩
  · obtain ⟨k, hkk⟩ : ∃ k, room = t.kept + k := ⟨room - t.kept, by omega⟩
    have e0 : room - t.kept = k := by omega
    rw [e0] at hm
    obtain ⟨L, hL, hLA, lstep⟩ := h.log
    have HLG := hidx (mlog_any h)
    have HK := hidx (keep_ok hL hb hl k (by omega) (by omega))
    have HSt := hidx lstep
    have HH := hidx h
    have e3 : (room : Int) - (t.kept : Int) = (k : Int) := by omega
    have d1 : ¬ k = 0 := by omega
    have HE : Hid (coverL l t room = { l with kept := l.kept + k } ∧ coverT t room = { t with kept := t.kept + k }) := by
      unfold coverL coverT; rw [e0]; exact ⟨rfl, rfl⟩
    have HT := hidx ht
    have HM := hidx hm
    clear h hT step hSA hL hLA lstep hm ht hle hkk
    go_enter Tryz.func157, Tryz.ntmps157
    go_wp2_with fail
    refine HLG.out.mono ?_
    rintro r w1 ⟨rfl, rfl⟩
    go_wp2_with fail
    refine HK.out.mono ?_
    rintro r w1 ⟨rfl, hL1, hm1⟩
    obtain ⟨A1, h1, mv1⟩ := HSt.out w1 _ _ hL1 rfl hm1
    obtain ⟨S1, hT1, hSA1, step1⟩ := h1.tx HT.out
    have g5 := hT1.cells.c5
    have f5 := hT1.cells.fr 5
    obtain ⟨q1, q2⟩ := hT1.put (t' := { t with kept := t.kept + k }) 5 (.int .i64 ((t.kept : Int) + (k : Int))) rfl (fun dv => rfl)
    obtain ⟨A2, h2, mv2⟩ := step1 _ _ _ q1 rfl q2
    have HF := hidx (⟨A2, by rw [HE.out.1, HE.out.2]; exact h2, mv1.trans mv2⟩ : ∃ A', MSys (w1.setCell ⟨X n, 5, none⟩ (.int .i64 ((t.kept : Int) + (k : Int)))) m p X A' P (coverL l t room) d (M.set n (coverT t room)) ∧ Moves A A' w (w1.setCell ⟨X n, 5, none⟩ (.int .i64 ((t.kept : Int) + (k : Int)))))
    clear hL1 hm1 h1 hT1 step1 hSA1 q1 q2 h2 mv1 mv2 HE HH HSt HK HLG c5
    go_wp2
    go_ret
    exact ⟨rfl, HF.out⟩

def spendL (l : LG) (t : MtV) (s : ByteArray) (left : Nat) : LG := { putG (coverL l t (s.size + 12 + left)) s with kept := (coverL l t (s.size + 12 + left)).kept - (s.size + 12) }
def spendT (l : LG) (t : MtV) (s : ByteArray) (left : Nat) : MtV := { t with kept := (coverT t (s.size + 12 + left)).kept - (s.size + 12), last := l.bytes.length + 1 }

set_option maxHeartbeats 1600000 in
set_option maxRecDepth 20000 in
theorem spend_any (h : MSys w m p X A P l d M) {n : Int} {t : MtV} (ht : M.T n = some t) (s : ByteArray) (left : Nat) (h1 : 1 ≤ s.size) (h2 : s.size ≤ 8192) (hr : left ≤ 10000000) (hk : t.kept ≤ 10000000) (hb : s.size + 12 + l.bytes.length ≤ 4194304) (hs : l.starts.length ≤ 10000000) (hl : l.kept + ((s.size + 12 + left) - t.kept) ≤ 4194304) (hm : s.size + 12 + left ≤ t.kept ∨ l.kept + ((s.size + 12 + left) - t.kept) + l.bytes.length ≤ 4194304) :
    Calls Tryz.prog 97 #[.pointer (some ⟨m, 0, none⟩), .pointer (some ⟨X n, 0, none⟩), .string s, .int .i64 left] w fun r w' => r = .returned (.tuple #[.int .u64 ((l.bytes.length + 1 : Nat) : Int), .int .i64 0]) ∧ ∃ A', MSys w' m p X A' P (spendL l t s left) d (M.set n (spendT l t s left)) ∧ Moves A A' w w' := by
  have HCV := hidx (cover_any h ht (s.size + 12 + left) (by omega) (by omega) (by omega) (by omega) hm)
  have HM0 := hidx (MgG.set_get M n (coverT t (s.size + 12 + left)))
  have Hle : Hid (s.size + 12 ≤ (coverT t (s.size + 12 + left)).kept ∧ (coverT t (s.size + 12 + left)).kept ≤ 20000000) := by
    unfold coverT; exact ⟨by show _ ≤ t.kept + _; omega, by show t.kept + _ ≤ _; omega⟩
  have HLb : Hid ((coverL l t (s.size + 12 + left)).bytes = l.bytes ∧ (coverL l t (s.size + 12 + left)).starts = l.starts ∧ (coverL l t (s.size + 12 + left)).kept ≤ 4194304 ∧ (coverL l t (s.size + 12 + left)).dp = l.dp) := ⟨rfl, rfl, hl, rfl⟩
  unfold spendL spendT
  obtain ⟨l1, Hl1⟩ : ∃ q, Hid (coverL l t (s.size + 12 + left) = q) := ⟨_, rfl⟩
  obtain ⟨t1, Ht1⟩ : ∃ q, Hid (coverT t (s.size + 12 + left) = q) := ⟨_, rfl⟩
  have Htt : Hid ({ t with kept := t1.kept - (s.size + 12), last := l.bytes.length + 1 } = { t1 with kept := t1.kept - (s.size + 12), last := l.bytes.length + 1 }) := by rw [← Ht1.out]; exact rfl
  rw [Hl1.out] at HCV HLb ⊢
  rw [Ht1.out] at HCV HM0 Hle ⊢
  clear Hl1 Ht1 h ht hm hl
  have b0 : s.size ≤ 8192 := h2
  go_enter Tryz.func97, Tryz.ntmps97
  go_wp2_with fail
  refine HCV.out.mono ?_
  rintro r w1 ⟨rfl, A1, g1, mv1⟩
  have HLG := hidx (mlog_any g1)
  obtain ⟨L, hL, hLA, lstep⟩ := g1.log
  have HSP := hidx (spend_out hL (by rw [HLb.out.1]; omega) (by rw [HLb.out.2.1]; omega) HLb.out.2.2.1 s h1 h2 (by rw [HLb.out.1]; omega))
  rw [HLb.out.1] at HSP
  have HSt := hidx lstep
  have HMV := hidx mv1
  clear g1 hL hLA lstep mv1 HCV
  go_wp2_with fail
  refine HLG.out.mono ?_
  rintro r w2 ⟨rfl, rfl⟩
  go_wp2_with fail
  refine HSP.out.mono ?_
  rintro r w2 ⟨rfl, L2, hL2, hm2⟩
  obtain ⟨A2, g2, mv2⟩ := HSt.out w2 _ _ hL2 rfl hm2
  obtain ⟨S2, hT2, hSA2, step2⟩ := g2.tx HM0.out
  have c5 := hT2.cells.c5
  have f5 := hT2.cells.fr 5
  have hle := Hle.out
  have em : (t1.kept : Int) - min ((s.size : Int) + 12) (t1.kept : Int) = ((t1.kept - (s.size + 12) : Nat) : Int) := by omega
  obtain ⟨q1, q2⟩ := hT2.put (t' := { t1 with kept := t1.kept - (s.size + 12) }) 5 (.int .i64 ((t1.kept - (s.size + 12) : Nat) : Int)) rfl (fun dv => rfl)
  obtain ⟨q3, q4⟩ := q1.put (t' := { t1 with kept := t1.kept - (s.size + 12), last := l.bytes.length + 1 }) 2 (.int .u64 ((l.bytes.length + 1 : Nat) : Int)) rfl (fun dv => rfl)
  have f2 := q1.cells.fr 2
  obtain ⟨A3, g3, mv3⟩ := step2 _ _ _ q3 rfl (q2.trans q4)
  have HF : Hid (∃ A', MSys ((w2.setCell ⟨X n, 5, none⟩ (.int .i64 ((t1.kept - (s.size + 12) : Nat) : Int))).setCell ⟨X n, 2, none⟩ (.int .u64 ((l.bytes.length + 1 : Nat) : Int))).drew m p X A' P { putG l1 s with kept := l1.kept - (s.size + 12) } d (M.set n { t with kept := t1.kept - (s.size + 12), last := l.bytes.length + 1 }) ∧ Moves A A' w ((w2.setCell ⟨X n, 5, none⟩ (.int .i64 ((t1.kept - (s.size + 12) : Nat) : Int))).setCell ⟨X n, 2, none⟩ (.int .u64 ((l.bytes.length + 1 : Nat) : Int))).drew) :=
    ⟨A3, by rw [Htt.out]; rw [MgG.set_set] at g3; exact g3.same (fun _ _ => rfl) (Nat.le_refl _), (HMV.out.trans (mv2.trans mv3)).kept ((Kept.refl _ _).drew)⟩
  have f2' := hT2.cells.fr 2
  have c2 := hT2.cells.c2
  have hw : IntKind.i64.wrap ((t1.kept - (s.size + 12) : Nat) : Int) = ((t1.kept - (s.size + 12) : Nat) : Int) := by rw [IntKind.wrap_i64]; omega
  clear f2
  clear hT2 hSA2 step2 q1 q2 q3 q4 g3 mv3 g2 mv2 hL2 hm2 HSt HSP HLG HM0 Hle Htt HLb HMV
  go_upto_region 8 with fail
  go_still_tail 13, (by kernel_rfl)
  go_wp2
  go_ret2
  exact ⟨rfl, HF.out⟩

end

end Go.Proofs.YtdhphbokkmofaaaGreat

namespace Go.Proofs.YtdhphbokkmofaaaGreat
open Go.RowKit Go.Sort

def fresh (n : Nat) : MtV := ⟨n, 1, 0, 0, true, 128, []⟩

def MgG.born (M : MgG) : MgG := { M with T := fun k => if k = (M.next : Int) then some (fresh M.next) else M.T k, z := M.z + 1, next := M.next + 1 }

def bornX (X : Int → Nat) (n : Int) (b : Nat) : Int → Nat := fun k => if k = n then b else X k

section
variable {w : World} {m tb p : Nat} {dn : Value} {D : DataW Value} {X : Int → Nat} {S : Int → Nat → Prop} {B : Nat → Prop} {M : MgG}

theorem MgAt.setNext (h : MgAt w m tb dn D X S B p M) (k : Nat) : MgAt (w.setCell ⟨m, 2, none⟩ (.int .i64 k)) m tb dn D X S B p { M with next := k } ∧ Moves B B w (w.setCell ⟨m, 2, none⟩ (.int .i64 k)) := by
  have hk := Kept.setCell B w m 2 (.int .i64 k) h.bm
  have ho : ∀ i, i ≠ m → (w.setCell ⟨m, 2, none⟩ (.int .i64 k)).heap[i]? = w.heap[i]? := fun i hi => by simp [World.setCell, Array.getElem?_modify, Ne.symm hi]
  refine ⟨⟨h.blk.set 2 _, h.map.same (ho tb h.mt), h.no, fun n t e => ?_, h.keys, ownsRow_same h.done fun g e => ho g fun q => h.dm (q ▸ e), h.apart, h.off, h.dm, h.bm, h.bt, h.bd, h.bs, fun i hi => Nat.lt_of_lt_of_le (h.lt i hi) hk.size⟩, Moves.of_kept hk⟩
  obtain ⟨a1, a2, a3, a4⟩ := h.yes n t e
  exact ⟨a1, a2, a3.same (fun i hi => ho i (h.off n (by rw [e]; exact Option.some_ne_none t) i hi).1) hk.size, a4⟩

theorem MgAt.born {W : World} (h : MgAt w m tb dn D X S B p M) (n : Nat) (t : MtV) (htx : t.tx = n) (hd : t.debts = []) (hn : M.T n = none) (hz : M.z ≤ 1000000) (hr : (n : Int) ≤ 9223372036854775807)
    (hW : W = w.alloc (.cells (t.cells (.slice none 0 0)) 104)) :
    ∃ u : World → World, (Instr.mapUpdate 125 (.map (some tb)) (.int .i64 n) (.pointer (some ⟨w.heap.size, 0, none⟩))).run Tryz.prog W = .ok () (u W) ∧ ∃ B', IsMgr (u W) m B' p (bornX X n w.heap.size) { M with T := fun k => if k = (n : Int) then some t else M.T k, z := M.z + 1 } ∧ Moves B B' w (u W) := by
  have bW : Below w.heap.size w W := by rw [hW]; exact (Below.refl _ _).alloc (Nat.le_refl _) _
  have xW : Blk W w.heap.size (t.cells (.slice none 0 0)) 104 := by rw [hW]; exact Blk.made _ _ _
  have hA := h.same (fun i hi => bW.block i (h.lt i hi)) bW.size
  obtain ⟨u, hu⟩ := put_ex 3 125 97 tb (.int .i64 n) (.pointer (some ⟨w.heap.size, 0, none⟩))
  obtain ⟨hrun, hM, ht⟩ := hu W M.z D (xkey n) hA.map xKeyed Tryz.underlying125 hz (xkey_key (by omega) hr)
  have hk : Kept (fun k => k = tb) W (u W) := mapTurned_kept ht rfl
  have hkb : ∀ k, k < W.heap.size → k ≠ tb → (u W).heap[k]? = W.heap[k]? := fun k hk' hne => hk.block k hk' hne
  have hsz : W.heap.size ≤ (u W).heap.size := hk.size
  have hI : Maps.IsMap D := (hA.map.tidy xKeyed).isMap
  have hzz : Maps.size (D.put (xkey n) (.held (.pointer (some ⟨w.heap.size, 0, none⟩)))) = M.z + 1 := by
    rw [Maps.size_put (hA.map.tidy xKeyed), hA.map.2, h.no _ hn]; rfl
  rw [hzz] at hM
  have hne : ∀ k : Int, (if k = (n : Int) then some t else M.T k) ≠ none → k ≠ n → M.T k ≠ none := fun k q e => by rw [if_neg e] at q; exact q
  have hbl := xW.lt
  have hb : ∀ k, B k → k ≠ w.heap.size := fun k x e => by have := h.lt k x; omega
  have hbt : w.heap.size ≠ tb := fun e => hb tb h.bt e.symm
  refine ⟨u, hrun, fun k => B k ∨ k = w.heap.size, ⟨tb, dn, D.put (xkey n) (.held (.pointer (some ⟨w.heap.size, 0, none⟩))), fun k => if k = (n : Int) then (fun i => i = w.heap.size) else S k, ?_⟩, ?_⟩
  · refine ⟨hA.blk.same (hkb m hA.blk.lt h.mt.symm), hM, ?_, ?_, ?_, ownsRow_same hA.done fun g e => hkb g (hA.lt g (h.bd g e)) fun q => h.dt (q ▸ e), ?_, ?_, h.dm, .inl h.bm, .inl h.bt, fun g e => .inl (h.bd g e), ?_, ?_⟩
    · intro k e
      by_cases q : k = n
      · simp [q] at e
      · simp only [if_neg q] at e
        rw [Maps.has_put_other (xkey_ne q)]
        exact h.no k e
    · intro k x e
      by_cases q : k = n
      · subst q
        have hx : t = x := by simpa using e
        subst hx
        refine ⟨Maps.has_put_same hI (xkey_lit _) _, ?_, ?_, by rw [htx]⟩
        · rw [getV_put_same hI (xkey_lit _)]
          simp [bornX]
        · simp only [if_true, bornX]
          refine ⟨⟨.slice none 0 0, xW.same (hkb _ hbl hbt), ?_, fun g e => by cases e⟩, rfl, fun k e => by rw [e]; exact Nat.lt_of_lt_of_le hbl hsz⟩
          rw [hd]
          exact World.ownsRow_nil _ _ _ _
      · simp only [if_neg q] at e
        obtain ⟨a1, a2, a3, a4⟩ := hA.yes k x e
        have hkn : M.T k ≠ none := by rw [e]; exact Option.some_ne_none x
        refine ⟨by rw [Maps.has_put_other (xkey_ne q)]; exact a1, by rw [getV_put_other (xkey_ne q)]; simp only [bornX, if_neg q]; exact a2, ?_, a4⟩
        simp only [if_neg q, bornX]
        exact a3.same (fun i hi => hkb i (a3.lt i hi) (h.off k hkn i hi).2.1) hsz
    · intro l hl
      by_cases e : l = xkey n
      · exact ⟨n, e, by simp⟩
      · rw [Maps.has_put_other e] at hl
        obtain ⟨k, e1, e2⟩ := h.keys l hl
        refine ⟨k, e1, ?_⟩
        have : k ≠ n := fun q => e (by rw [e1, q])
        simp only [if_neg this]
        exact e2
    · intro k k' hkk h1 h2 i hi
      by_cases q : k = n
      · simp only [if_pos q] at hi
        have q' : k' ≠ n := fun e => hkk (q.trans e.symm)
        simp only [if_neg q']
        intro y
        exact hb i (h.bs k' (hne k' h2 q') i y) hi
      · simp only [if_neg q] at hi
        by_cases q' : k' = n
        · simp only [if_pos q']
          exact hb i (h.bs k (hne k h1 q) i hi)
        · simp only [if_neg q']
          exact h.apart k k' hkk (hne k h1 q) (hne k' h2 q') i hi
    · intro k h1 i hi
      by_cases q : k = n
      · simp only [if_pos q] at hi
        subst hi
        exact ⟨fun e => hb m h.bm e.symm, hbt, fun e => hb _ (h.bd _ e) rfl⟩
      · simp only [if_neg q] at hi
        exact h.off k (hne k h1 q) i hi
    · intro k h1 i hi
      by_cases q : k = n
      · simp only [if_pos q] at hi; exact .inr hi
      · simp only [if_neg q] at hi; exact .inl (h.bs k (hne k h1 q) i hi)
    · rintro k (x | x)
      · exact Nat.lt_of_lt_of_le (hA.lt k x) hsz
      · rw [x]; exact Nat.lt_of_lt_of_le hbl hsz
  · refine ⟨⟨hk.os.trans bW.os, hk.tape.trans bW.tape, hk.output.trans bW.output, Nat.le_trans bW.size hsz, fun i hi hs => ?_⟩, ?_⟩
    · exact (hkb i (Nat.lt_of_lt_of_le hi bW.size) fun e => hs (e ▸ h.bt)).trans (bW.block i hi)
    · rintro k (x | x)
      · exact .inl x
      · exact .inr (by omega)

end

section
variable {w : World} {m p : Nat} {X : Int → Nat} {A : Nat → Prop} {P : PG} {l : LG} {d : DG} {M : MgG}

set_option maxHeartbeats 1600000 in
set_option maxRecDepth 20000 in
theorem coming_any (h : MSys w m p X A P l d M) (hn : M.next ≤ 1000000000) (ht : M.T M.next = none) :
    Calls Tryz.prog 58 #[.pointer (some ⟨m, 0, none⟩)] w fun r w' => r = .returned (.int .i64 M.next) ∧ w = w' := by
  obtain ⟨tb, c0, c1, c2, c3, hl⟩ := h.reads
  replace hl := hl M.next (by omega) (by omega)
  rw [ht] at hl
  simp only [Option.isSome_none, Bool.false_eq_true, if_false] at hl
  clear h ht
  go_enter Tryz.func58, Tryz.ntmps58
  go_wp2
  go_loopw [3, 5] (fun v3 v wr => v3 = .int .i64 M.next ∧ v = .bool false ∧ wr = w) (fun _ _ _ => 0)
  case atStart => exact ⟨rfl, rfl, rfl⟩
  case round =>
    obtain ⟨rfl, rfl, rfl⟩ := hrel
    go_wp2
    go_ret
    exact ⟨rfl, rfl⟩

set_option maxHeartbeats 1600000 in
set_option maxRecDepth 20000 in
theorem begin_ok (h : MSys w m p X A P l d M) (hn : M.next ≤ 1000000000) (ht : M.T M.next = none) (hz : M.z < 64) (hb : l.bytes.length ≤ 4194304) (hk : l.kept + 128 + l.bytes.length ≤ 4194304) :
    Calls Tryz.prog 18 #[.pointer (some ⟨m, 0, none⟩)] w fun r w' => r = .returned (.tuple #[.int .i64 M.next, .int .i64 0]) ∧ ∃ A' b, MSys w' m p (bornX X M.next b) A' P { l with kept := l.kept + 128 } d M.born ∧ Moves A A' w w' := by
  obtain ⟨tb, c0, c1, c2, c3, _⟩ := h.reads
  have HLG := hidx (mlog_any h)
  have hlen : ∀ ty, (Builtin.len_ #[125] ty #[.map (some tb)]).run Tryz.prog w = .ok (.int .i64 M.z) w := by
    obtain ⟨B, ⟨tb', dn, D, S, hM⟩, _, _⟩ := h.mgr
    have e : tb' = tb := by have := hM.blk.cell 1; rw [c1] at this; simpa using this.symm
    subst e
    intro ty
    have := hM.map.1.len (t := 125) (e := 97) Tryz.underlying125 ty
    rw [hM.map.2] at this
    exact this
  obtain ⟨L, hL, hLA, lstep⟩ := h.log
  have HK := hidx (keep_ok hL hb (by omega) 128 (by omega) (by omega))
  have HSt := hidx lstep
  have HT := hidx ht
  have hz' : (M.z : Int) < 64 := by omega
  clear h hL hLA lstep c0 c2 c3 ht
  go_enter Tryz.func18, Tryz.ntmps18
  go_wp2_with fail
  refine HLG.out.mono ?_
  rintro r w1 ⟨rfl, rfl⟩
  clear hlen
  go_wp2_with fail
  refine HK.out.mono ?_
  rintro r w1 ⟨rfl, hL1, hm1⟩
  obtain ⟨A1, h1, mv1⟩ := HSt.out w1 _ _ hL1 rfl hm1
  have HC := hidx (coming_any h1 hn HT.out)
  have H1 := hidx h1
  have MV1 := hidx mv1
  clear h1 mv1 hL1 hm1 HSt HK HLG
  go_wp2_with fail
  refine HC.out.mono ?_
  rintro r w2 ⟨rfl, rfl⟩
  clear HC
  obtain ⟨B, ⟨tb', dn, D, S, hM⟩, hBA, mstep⟩ := H1.out.mgr
  have g2 := hM.blk.cell 2
  have f2 := hM.blk.frozen 2
  have g1 := hM.blk.cell 1
  obtain ⟨hM2, mv2⟩ := hM.setNext (M.next + 1)
  obtain ⟨W, HW⟩ : ∃ W, Hid (W = w1.setCell ⟨m, 2, none⟩ (.int .i64 ((M.next : Int) + 1))) := ⟨_, rfl⟩
  have eW : w1.setCell ⟨m, 2, none⟩ (.int .i64 ((M.next + 1 : Nat) : Int)) = W := HW.out.symm
  rw [eW] at hM2 mv2
  have g1' : W.cell? ⟨m, 1, none⟩ = some (.map (some tb')) := hM2.blk.cell 1
  obtain ⟨u, hrun, B', hM3, mv3⟩ := hM2.born (W := W.alloc (.cells ((fresh M.next).cells (.slice none 0 0)) 104)) M.next (fresh M.next) rfl rfl HT.out (by show M.z ≤ _; omega) (by omega) rfl
  have HRUN : Hid (∀ v : Value, v = .pointer (some ⟨W.heap.size, 0, none⟩) → (Instr.mapUpdate 125 (.map (some tb')) (.int .i64 M.next) v).run Tryz.prog (W.alloc (.cells #[.int .i64 M.next, .int .i64 1, .int .u64 0, .int .u64 0, .bool true, .int .i64 128, .slice none 0 0] 104)) = .ok () (u (W.alloc (.cells #[.int .i64 M.next, .int .i64 1, .int .u64 0, .int .u64 0, .bool true, .int .i64 128, .slice none 0 0] 104)))) := fun v e => by rw [e]; exact hrun
  have hrun' := HRUN.out _ rfl
  obtain ⟨A3, h3, mv4⟩ := mstep _ _ _ _ hM3 (mv2.trans mv3)
  have HF := hidx (⟨A3, _, h3, MV1.out.trans mv4⟩ : ∃ A' b, MSys (u (W.alloc (.cells ((fresh M.next).cells (.slice none 0 0)) 104))) m p (bornX X M.next b) A' P { l with kept := l.kept + 128 } d M.born ∧ Moves A A' w (u (W.alloc (.cells ((fresh M.next).cells (.slice none 0 0)) 104))))
  have HWW := HW
  clear h3 mv4 mstep mv2 mv3 hM3 hrun hM2 hM hBA MV1 H1 HT HRUN eW
  go_upto_region 10 with fail
  rw [← HW.out]
  clear HW HWW g1 g2 f2
  go_wp2
  go_ret2
  exact ⟨rfl, HF.out⟩

end

end Go.Proofs.YtdhphbokkmofaaaGreat
