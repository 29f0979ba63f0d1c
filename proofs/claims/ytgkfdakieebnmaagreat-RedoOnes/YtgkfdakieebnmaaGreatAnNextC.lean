/-
  The steps of ranges over the two maps of what was heard.
-/
import Derived.Test.YtgkfdakieebnmaaGreatAnSortC
import Derived.Maps.RangeWalk
import Derived.Deep.AppendLies
set_option linter.unusedVariables false
set_option linter.unusedSimpArgs false
namespace Go.Proofs.YtgkfdakieebnmaaGreat
open Go.RowKit Go.Sort Go.Shelf Go.Lib

def tOf (g : HearG) (n : Int) : TxV := (g.T n).getD (0, 0, 0, 0)
def dOf (g : HearG) (n : Int) : DiV := (g.D n).getD (0, 0)

theorem wpList_next_an (w : World) {ops : Array Oper} {rest : List Oper} {o : Oper} {a : Act} {Q : Exit → Act → World → Prop} (hg : o.guard = none) (it : Operand) (hop : o.op = Op.next it false) (b r n : Nat) (D : DataW Value) (left : Lit → Bool) (cnt : Nat) (T : Int → Option TxV)
    (hit : a.eval it = .pointer (some ⟨r, 0, none⟩)) (h : w.ranges Tryz.prog 3 rawElem b r n D left cnt) (hkeys : ∀ l, Maps.has D l = true → ∃ n, l = aikey n ∧ T n ≠ none) (hbd : ∀ n, T n ≠ none → -9223372036854775808 ≤ n ∧ n ≤ 9223372036854775807)
    (hDone : cnt = 0 → (∀ kl, left kl = false) → wpList Tryz.prog ops Q rest (a.put o.dst (.tuple #[.bool false])) w)
    (hMore : ∀ (nm : Int) (c : Value) (w' : World) (cnt' : Nat), T nm ≠ none → left (aikey nm) = true → Maps.has D (aikey nm) = true → getV D (aikey nm) zeroTx = c → w'.ranges Tryz.prog 3 rawElem b r n D (fun z => left z && !z.sameKey (aikey nm)) cnt' → cnt' < cnt →
      w.grownBy w' (some r) → w'.heap.size = w.heap.size → (Instr.entry (.pointer (some ⟨r, 0, none⟩))).run Tryz.prog w' = .ok (.tuple #[.int .i64 nm, c]) w' → wpList Tryz.prog ops Q rest (a.put o.dst (.tuple #[.bool true, .int .i64 nm, c])) w') :
    wpList Tryz.prog ops Q (o :: rest) a w := by
  refine wpList_plain hg fun K' hK' => ?_
  unfold Oper.wp
  rcases h.next aiKeyed o.type with ⟨h0, hl, hrun⟩ | ⟨key, v, kl, y, w', cnt', hkey, hlk, hv, hat, hrun, hrg, hlt, hgr, hsz, hen⟩
  · simp [execOp, hop, hit, hrun, Result.andThen]
    exact hK' _ _ (hDone h0 hl)
  · have hh : Maps.has D kl = true := Maps.has_true_of_atKey hat
    obtain ⟨nm, rfl, hT⟩ := hkeys kl hh
    obtain ⟨b1, b2⟩ := hbd nm hT
    obtain rfl : key = .int .i64 nm := aiKeyed.inj hkey (aikey_key b1 b2)
    have hc : getV D (aikey nm) zeroTx = v := by
      unfold getV
      rw [hat (.held zeroTx)]
      unfold rawElem at hv
      simp only [Option.some.injEq] at hv
      rw [← hv]
    simp [execOp, hop, hit, hrun, Result.andThen]
    exact hK' _ _ (hMore nm v w' cnt' hT hlk hh hc hrg hlt hgr hsz hen)

theorem wpList_next_ad (w : World) {ops : Array Oper} {rest : List Oper} {o : Oper} {a : Act} {Q : Exit → Act → World → Prop} (hg : o.guard = none) (it : Operand) (hop : o.op = Op.next it false) (b r n : Nat) (D : DataW Value) (left : Lit → Bool) (cnt : Nat) (T : Int → Option DiV)
    (hit : a.eval it = .pointer (some ⟨r, 0, none⟩)) (h : w.ranges Tryz.prog 49 rawElem b r n D left cnt) (hkeys : ∀ l, Maps.has D l = true → ∃ n, l = apkey n ∧ T n ≠ none) (hbd : ∀ n, T n ≠ none → 0 ≤ n ∧ n < 4294967296)
    (hDone : cnt = 0 → (∀ kl, left kl = false) → wpList Tryz.prog ops Q rest (a.put o.dst (.tuple #[.bool false])) w)
    (hMore : ∀ (nm : Nat) (c : Value) (w' : World) (cnt' : Nat), T nm ≠ none → left (apkey nm) = true → Maps.has D (apkey nm) = true → getV D (apkey nm) zeroLs = c → w'.ranges Tryz.prog 49 rawElem b r n D (fun z => left z && !z.sameKey (apkey nm)) cnt' → cnt' < cnt →
      w.grownBy w' (some r) → w'.heap.size = w.heap.size → (Instr.entry (.pointer (some ⟨r, 0, none⟩))).run Tryz.prog w' = .ok (.tuple #[.int .u32 nm, c]) w' → wpList Tryz.prog ops Q rest (a.put o.dst (.tuple #[.bool true, .int .u32 nm, c])) w') :
    wpList Tryz.prog ops Q (o :: rest) a w := by
  refine wpList_plain hg fun K' hK' => ?_
  unfold Oper.wp
  rcases h.next pageKeyed o.type with ⟨h0, hl, hrun⟩ | ⟨key, v, kl, y, w', cnt', hkey, hlk, hv, hat, hrun, hrg, hlt, hgr, hsz, hen⟩
  · simp [execOp, hop, hit, hrun, Result.andThen]
    exact hK' _ _ (hDone h0 hl)
  · have hh : Maps.has D kl = true := Maps.has_true_of_atKey hat
    obtain ⟨nm', rfl, hT⟩ := hkeys kl hh
    obtain ⟨b1, b2⟩ := hbd nm' hT
    obtain ⟨nm, rfl⟩ := Int.eq_ofNat_of_zero_le b1
    obtain rfl : key = .int .u32 (nm : Int) := pageKeyed.inj hkey (apkey_key (by omega))
    have hc : getV D (apkey (nm : Int)) zeroLs = v := by
      unfold getV
      rw [hat (.held zeroLs)]
      unfold rawElem at hv
      simp only [Option.some.injEq] at hv
      rw [← hv]
    simp [execOp, hop, hit, hrun, Result.andThen]
    exact hK' _ _ (hMore nm v w' cnt' hT hlk hh hc hrg hlt hgr hsz hen)

structure KeysOf {α : Type} (F : Int → Option α) (NL : List Int) : Prop where
  nd : NL.Nodup
  mem : ∀ n, n ∈ NL ↔ F n ≠ none

structure KeysIn {α : Type} (F : Int → Option α) (kf : Int → Lit) (left : Lit → Bool) (NL : List Int) : Prop where
  nd : NL.Nodup
  mem : ∀ n, n ∈ NL ↔ (F n ≠ none ∧ left (kf n) = false)

theorem KeysIn.push {α : Type} {F : Int → Option α} {kf : Int → Lit} {left : Lit → Bool} {NL : List Int} (h : KeysIn F kf left NL) (hlit : ∀ n, WideAt.IsKeyLit (kf n)) (hne : ∀ {a b : Int}, a ≠ b → kf a ≠ kf b) {nm : Int} (hT : F nm ≠ none) (hl0 : left (kf nm) = true) :
    KeysIn F kf (fun z => left z && !z.sameKey (kf nm)) (NL ++ [nm]) := by
  have hnot : nm ∉ NL := fun x => by have := ((h.mem nm).1 x).2; rw [hl0] at this; cases this
  refine ⟨?_, fun n => ?_⟩
  · rw [List.nodup_append]
    exact ⟨h.nd, by simp, fun a ha b hb e => by simp at hb; subst hb; subst e; exact hnot ha⟩
  · rw [List.mem_append, h.mem n]
    by_cases e : n = nm
    · subst e
      simp [hT, WideAt.sameKey_self (hlit n)]
    · have : (kf n).sameKey (kf nm) = false := Maps.sameKey_ne (hne e)
      simp [this, e]

theorem KeysIn.done {α : Type} {F : Int → Option α} {kf : Int → Lit} {left : Lit → Bool} {NL : List Int} (h : KeysIn F kf left NL) (hl : ∀ l, left l = false) : KeysOf F NL :=
  ⟨h.nd, fun n => (h.mem n).trans ⟨fun x => x.1, fun x => ⟨x, hl _⟩⟩⟩

theorem KeysOf.can {α : Type} {key : α → Int} {F : Int → Option α} {NL : List Int} (h : KeysOf F NL) (hk : ∀ n x, F n = some x → key x = n) (d : α) {L : List α} (hp : L.Perm (NL.map fun n => (F n).getD d)) (hs : L.Pairwise fun a b => key a ≤ key b) : Can key L F := by
  have hm : ∀ x, x ∈ L ↔ ∃ n, n ∈ NL ∧ (F n).getD d = x := fun x => by rw [hp.mem_iff, List.mem_map]
  have hmem : ∀ n x, (x ∈ L ∧ key x = n) ↔ F n = some x := by
    intro n x
    constructor
    · rintro ⟨h1, h2⟩
      obtain ⟨m, m1, m2⟩ := (hm x).1 h1
      cases e : F m with
      | none => exact absurd e ((h.mem m).1 m1)
      | some y =>
        rw [e] at m2
        simp only [Option.getD_some] at m2
        subst m2
        rw [← h2, hk m y e, e]
    · intro e
      exact ⟨(hm x).2 ⟨n, (h.mem n).2 (by rw [e]; exact Option.some_ne_none _), by rw [e]; rfl⟩, hk n x e⟩
  refine ⟨?_, hmem⟩
  have hnd : (L.map key).Nodup := by
    have h1 : (L.map key).Perm (NL.map fun n => key ((F n).getD d)) := by
      have := hp.map key
      rwa [List.map_map] at this
    rw [h1.nodup_iff]
    have h2 : (NL.map fun n => key ((F n).getD d)) = NL := by
      have : ∀ M : List Int, (∀ n ∈ M, n ∈ NL) → (M.map fun n => key ((F n).getD d)) = M := by
        intro M
        induction M with
        | nil => intro _; rfl
        | cons a M ih =>
          intro hM
          rw [List.map_cons, ih fun n hn => hM n (List.mem_cons_of_mem _ hn)]
          congr 1
          cases e : F a with
          | none => exact absurd e ((h.mem a).1 (hM a (List.mem_cons_self ..)))
          | some y => exact hk a y e
      exact this NL fun _ x => x
    rw [h2]
    exact h.nd
  rw [List.nodup_iff_pairwise_ne, List.pairwise_map] at hnd
  exact (hs.and hnd).imp fun ⟨a, b⟩ => by omega

end Go.Proofs.YtgkfdakieebnmaaGreat
