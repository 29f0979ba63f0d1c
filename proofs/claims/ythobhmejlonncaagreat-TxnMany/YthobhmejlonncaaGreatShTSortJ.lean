/-
  The laying of a contract of the library's shelf at this program's numbers (plain text by the library's own command).
  slices.SortFunc at transactions' states, with the order that All hands in, off the library's shelf.
  The walk of (*txn.Manager).All.
-/
import Derived.Test.YthobhmejlonncaaGreatProg
import Derived.Shelf.SlSortCmp.WholeK
import Derived.Test.YthobhmejlonncaaGreatWalRoomJ
import Derived.Sort.OwnSortedInts
import Derived.Test.YthobhmejlonncaaGreatTxSpendJ
import Derived.Maps.RangeWalk
import Derived.Deep.AppendLies
namespace Go.Proofs.YthobhmejlonncaaGreat
open Go.Shelf

def tsortLays_ren : Go.Shelf.Ren := ⟨fun | 6 => 61 | 15 => 109 | 14 => 108 | 28 => 154 | 29 => 155 | 20 => 146 | 21 => 147 | 22 => 148 | 23 => 149 | 24 => 150 | 25 => 151 | 26 => 152 | 27 => 153 | 46 => 188 | 47 => 189 | 48 => 190 | 49 => 191 | 50 => 192 | 57 => 216 | n => n, fun | 22 => 57 | 24 => 64 | 25 => 130 | 3 => 3 | 39 => 170 | 0 => 0 | 53 => 34 | 55 => 30 | 4 => 4 | 46 => 211 | 45 => 210 | 50 => 199 | 5 => 5 | 9 => 9 | 66 => 248 | 70 => 252 | 76 => 278 | 77 => 279 | n => n, fun | n => n⟩
theorem tsortLays : Go.Proofs.SlLaysF0.n6 Tryz.prog tsortLays_ren := {
  mixed := by kernel_rfl
  f6 := ⟨Tryz.f61.name, by decide, Tryz.func61.trans (congrArg some (by kernel_rfl))⟩
  f14 := ⟨Tryz.f108.name, by decide, Tryz.func108.trans (congrArg some (by kernel_rfl))⟩
  f15 := Tryz.func109.trans (congrArg some (by kernel_rfl))
  f20 := ⟨Tryz.f146.name, by decide, Tryz.func146.trans (congrArg some (by kernel_rfl))⟩
  f21 := ⟨Tryz.f147.name, by decide, Tryz.func147.trans (congrArg some (by kernel_rfl))⟩
  f22 := ⟨Tryz.f148.name, by decide, Tryz.func148.trans (congrArg some (by kernel_rfl))⟩
  f23 := ⟨Tryz.f149.name, by decide, Tryz.func149.trans (congrArg some (by kernel_rfl))⟩
  f24 := ⟨Tryz.f150.name, by decide, Tryz.func150.trans (congrArg some (by kernel_rfl))⟩
  f25 := ⟨Tryz.f151.name, by decide, Tryz.func151.trans (congrArg some (by kernel_rfl))⟩
  f26 := ⟨Tryz.f152.name, by decide, Tryz.func152.trans (congrArg some (by kernel_rfl))⟩
  f27 := ⟨Tryz.f153.name, by decide, Tryz.func153.trans (congrArg some (by kernel_rfl))⟩
  f28 := Tryz.func154.trans (congrArg some (by kernel_rfl))
  f29 := Tryz.func155.trans (congrArg some (by kernel_rfl))
  f46 := ⟨Tryz.f188.name, by decide, Tryz.func188.trans (congrArg some (by kernel_rfl))⟩
  f47 := Tryz.func189.trans (congrArg some (by kernel_rfl))
  f48 := Tryz.func190.trans (congrArg some (by kernel_rfl))
  f49 := ⟨Tryz.f191.name, by decide, Tryz.func191.trans (congrArg some (by kernel_rfl))⟩
  f50 := ⟨Tryz.f192.name, by decide, Tryz.func192.trans (congrArg some (by kernel_rfl))⟩
  f57 := ⟨Tryz.f216.name, by decide, Tryz.func216.trans (congrArg some (by kernel_rfl))⟩
  t0 := Tryz.underlying0
  a0 := Tryz.isAgg0
  z0 := Tryz.sizeOf0
  v0 := Tryz.zeroValue0
  t3 := Tryz.underlying3
  a3 := Tryz.isAgg3
  z3 := Tryz.sizeOf3
  v3 := Tryz.zeroValue3
  t4 := Tryz.underlying4
  a4 := Tryz.isAgg4
  z4 := Tryz.sizeOf4
  v4 := Tryz.zeroValue4
  t5 := Tryz.underlying5
  a5 := Tryz.isAgg5
  z5 := Tryz.sizeOf5
  v5 := Tryz.zeroValue5
  t9 := Tryz.underlying9
  a9 := Tryz.isAgg9
  z9 := Tryz.sizeOf9
  v9 := Tryz.zeroValue9
  t22 := Tryz.underlying57
  a22 := Tryz.isAgg57
  z22 := Tryz.sizeOf57
  v22 := Tryz.zeroValue57
  t25 := Tryz.underlying130
  a25 := Tryz.isAgg130
  z25 := Tryz.sizeOf130
  v25 := Tryz.zeroValue130
  t39 := Tryz.underlying170
  a39 := Tryz.isAgg170
  z39 := Tryz.sizeOf170
  v39 := Tryz.zeroValue170
  t45 := Tryz.underlying210
  a45 := Tryz.isAgg210
  z45 := Tryz.sizeOf210
  v45 := Tryz.zeroValue210
  t46 := Tryz.underlying211
  a46 := Tryz.isAgg211
  z46 := Tryz.sizeOf211
  v46 := Tryz.zeroValue211
  t50 := Tryz.underlying199
  a50 := Tryz.isAgg199
  z50 := Tryz.sizeOf199
  v50 := Tryz.zeroValue199
  t53 := Tryz.underlying34
  a53 := Tryz.isAgg34
  z53 := Tryz.sizeOf34
  v53 := Tryz.zeroValue34
  t55 := Tryz.underlying30
  a55 := Tryz.isAgg30
  z55 := Tryz.sizeOf30
  v55 := Tryz.zeroValue30
  t66 := Tryz.underlying248
  a66 := Tryz.isAgg248
  z66 := Tryz.sizeOf248
  v66 := Tryz.zeroValue248
  t70 := Tryz.underlying252
  a70 := Tryz.isAgg252
  z70 := Tryz.sizeOf252
  v70 := Tryz.zeroValue252
  t76 := Tryz.underlying278
  a76 := Tryz.isAgg278
  z76 := Tryz.sizeOf278
  v76 := Tryz.zeroValue278
  t77 := Tryz.underlying279
  a77 := Tryz.isAgg279
  z77 := Tryz.sizeOf279
  v77 := Tryz.zeroValue279 }

end Go.Proofs.YthobhmejlonncaaGreat

namespace Go.Proofs.YthobhmejlonncaaGreat
open Go.RowKit Go.Shelf Go.Lib Go.Sort
set_option linter.unusedVariables false
set_option linter.unusedSimpArgs false

/-- Two numbers held against one another. -/
def cmpT (x y : Int) : Int := if x < y then -1 else if y < x then 1 else 0

set_option maxHeartbeats 800000 in
set_option maxRecDepth 60000 in
theorem tcmp_int (x y : Int) (w : World) : Calls Tryz.prog 63 #[.int .i64 x, .int .i64 y] w fun e w' => e = .returned (.int .i64 (cmpT x y)) ∧ w' = w := by
  have hn : ∀ (z : Int) wx, Calls Tryz.prog 110 #[.int .i64 z] wx fun e w' => e = .returned (.bool false) ∧ w' = wx := fun z wx => by
    go_enter Tryz.func110, Tryz.ntmps110
    go_wp2
    go_ret
    exact ⟨rfl, rfl⟩
  unfold cmpT
  rcases Int.lt_trichotomy x y with h | h | h
  · rw [if_pos h]
    go_enter Tryz.func63, Tryz.ntmps63
    go_wp2_with (go_at_call 110; refine (hn _ _).mono ?_; rintro e w' ⟨rfl, rfl⟩)
    go_ret
    exact ⟨rfl, rfl⟩
  · subst h
    rw [if_neg (by omega), if_neg (by omega)]
    go_enter Tryz.func63, Tryz.ntmps63
    go_wp2_with (go_at_call 110; refine (hn _ _).mono ?_; rintro e w' ⟨rfl, rfl⟩)
    go_ret
    exact ⟨rfl, rfl⟩
  · have h1 : ¬ x < y := by omega
    rw [if_neg h1, if_pos h]
    go_enter Tryz.func63, Tryz.ntmps63
    go_wp2_with (go_at_call 110; refine (hn _ _).mono ?_; rintro e w' ⟨rfl, rfl⟩)
    go_ret
    exact ⟨rfl, rfl⟩

/-- A transaction's state as plain data: its number, its state, its last record, the next one to be undone. -/
structure StV where
  tx : Nat
  state : Int
  last : Nat
  next : Nat

def stcells (s : StV) : List Value := [.int .i64 s.tx, .int .i64 s.state, .int .u64 s.last, .int .u64 s.next]
def stF (x y : StV) : Int := cmpT x.tx y.tx

set_option maxHeartbeats 1600000 in
set_option maxRecDepth 60000 in
theorem all1_any (x y : StV) (w : World) : Calls Tryz.prog 62 #[.agg (stcells x).toArray, .agg (stcells y).toArray] w fun e w' => e = .returned (.int .i64 (stF x y)) ∧ ∃ q os', w' = grow (w.drewN q) os' := by
  have hI : ∀ (wx : World), Calls Tryz.prog 63 #[.int .i64 x.tx, .int .i64 y.tx] wx fun e w' => e = .returned (.int .i64 (stF x y)) ∧ w' = wx := tcmp_int _ _
  have HI := hidx hI
  have HA : Hid (∀ z : StV, (stcells z).toArray = #[.int .i64 z.tx, .int .i64 z.state, .int .u64 z.last, .int .u64 z.next]) := fun _ => rfl
  rw [HA.out x, HA.out y]
  clear hI HA
  generalize stF x y = F at *
  go_enter Tryz.func62, Tryz.ntmps62
  go_wp2_with fail
  refine (HI.out _).mono ?_
  rintro e w1 ⟨rfl, rfl⟩
  go_wp2
  go_ret
  exact ⟨rfl, 0, #[_, _], rfl⟩

theorem cmpT_lt (a b : Int) : cmpT a b < 0 ↔ a < b := by
  unfold cmpT; split
  · omega
  · split <;> omega

theorem st_swo : SWO (ltOf stF) := by
  refine ⟨fun x => ?_, fun x y z => ?_, fun x y z => ?_⟩
  · unfold ltOf stF
    rw [decide_eq_false_iff_not, cmpT_lt]
    omega
  · unfold ltOf stF
    rw [decide_eq_true_iff, decide_eq_true_iff, decide_eq_true_iff, cmpT_lt, cmpT_lt, cmpT_lt]
    omega
  · unfold ltOf stF
    rw [decide_eq_false_iff_not, decide_eq_false_iff_not, decide_eq_false_iff_not, cmpT_lt, cmpT_lt, cmpT_lt]
    omega

/-- The value v is a list of states, a row of its own from block B on. -/
def StsAt (B : Nat) (w : World) (v : Value) (L : List StV) : Prop := w.ownsRow B 64 4 v L.length (L.flatMap stcells)

theorem StsAt.same {B : Nat} {w w' : World} {v : Value} {L : List StV} (h : StsAt B w v L) (k : ∀ g, v.ownBlock = some g → w'.heap[g]? = w.heap[g]?) : StsAt B w' v L := by
  refine ⟨h.1, ?_⟩
  rcases h.2 with ⟨rfl, h1⟩ | ⟨g', cap, cur, rfl, h0, hb, hr⟩
  · exact .inl ⟨rfl, h1⟩
  · exact .inr ⟨g', cap, cur, rfl, h0, (k g' rfl).trans hb, hr⟩
theorem StsAt.lt {B : Nat} {w : World} {v : Value} {L : List StV} (h : StsAt B w v L) : ∀ g, v.ownBlock = some g → B ≤ g ∧ g < w.heap.size := fun g hg => World.ownsRow.lt h g hg
theorem StsAt.val {B : Nat} {w : World} {v : Value} {L : List StV} (h : StsAt B w v L) : ∃ a c, v = .slice a L.length c := by
  rcases h.2 with ⟨rfl, h1⟩ | ⟨g', cap, cur, rfl, h0, hb, hr⟩
  · exact ⟨_, _, by rw [h1]⟩
  · exact ⟨_, _, rfl⟩

theorem stflat_get (L : List StV) (i j : Nat) (hi : i < L.length) (hj : j < 4) : (L.flatMap stcells)[i * 4 + j]? = (stcells L[i])[j]? := by
  induction L generalizing i with
  | nil => simp at hi
  | cons p L ih =>
    rw [List.flatMap_cons]
    have h4 : (stcells p).length = 4 := rfl
    match i, hi with
    | 0, _ =>
      rw [List.getElem?_append_left (by omega)]
      simp
    | i + 1, hi =>
      rw [List.getElem?_append_right (by omega)]
      have : (i + 1) * 4 + j - (stcells p).length = i * 4 + j := by rw [h4]; omega
      rw [this]
      exact ih i (by simpa using hi)

theorem tholds_of_blockV {w : World} {g : Nat} {cur : Array Value} {e : TypeId} {F : Array Value} (hb : w.heap[g]? = some (.cells cur e (0, 0))) (ht : cur.toList.take F.size = F.toList) : Holds id w g 0 F := by
  intro j hj
  refine ⟨?_, by simp [World.frozen?, hb]⟩
  have h1 : (cur.toList.take F.size)[j]? = F.toList[j]? := by rw [ht]
  rw [List.getElem?_take_of_lt hj] at h1
  simp only [World.cell?, hb, Nat.zero_add]
  simp only [Option.isSome_none, Bool.false_eq_true, if_false]
  rw [← Array.getElem?_toList, h1]
  simp [hj]

theorem theap_sortedV {w : World} {g n : Nat} {os : Array Obj} {cur : Array Value} {e : TypeId} {fr : Nat × Nat} (d : Array Value) (hb : w.heap[g]? = some (.cells cur e fr)) :
    (grow (putRow id (Sort.ahead w n) g 0 d) os).heap[g]? = some (.cells (putCells id 0 d cur) e fr) := by
  have hg : g < w.heap.size := (Array.getElem?_eq_some_iff.1 hb).1
  rw [heap_grow_old _ _ (by simpa using hg)]
  simp [putRow, mapBlock, Sort.ahead, Array.getElem?_modify, hb, onCells]

theorem tgrownBy_sortedV {w : World} {g n : Nat} {os : Array Obj} (d : Array Value) : w.grownBy (grow (putRow id (Sort.ahead w n) g 0 d) os) (some g) := by
  refine ⟨rfl, rfl, rfl, by simp, fun k hk hne => ?_⟩
  rw [heap_grow_old _ _ (by simpa using hk)]
  have : g ≠ k := fun e => hne (by rw [e])
  simp [putRow, mapBlock, Sort.ahead, Array.getElem?_modify, this]

theorem ttake_putCellsV (cur F : Array Value) (h : F.size ≤ cur.size) : (putCells id 0 F cur).toList.take F.size = F.toList := by
  apply List.ext_getElem?
  intro j
  by_cases hj : j < F.size
  · rw [List.getElem?_take_of_lt hj, Array.getElem?_toList]
    simp [putCells, hj, show j < cur.size by omega]
  · rw [List.getElem?_take_eq_none (by omega), List.getElem?_eq_none (by simp; omega)]

theorem stflat_len (L : List StV) : (L.flatMap stcells).length = L.length * 4 := by
  induction L with
  | nil => rfl
  | cons p L ih =>
    rw [List.flatMap_cons, List.length_append, ih]
    show 4 + _ = _
    simp
    omega

theorem stflatK_list (d : Array StV) (z : Inhabited StV) : (flatK stcells 4 d).toList = d.toList.flatMap stcells := by
  apply List.ext_getElem?
  intro t
  by_cases ht : t < d.size * 4
  · have hi : t / 4 < d.toList.length := by simp; omega
    have hj : t % 4 < 4 := Nat.mod_lt _ (by omega)
    have e := stflat_get d.toList (t / 4) (t % 4) hi hj
    rw [show t / 4 * 4 + t % 4 = t by omega] at e
    rw [e]
    have hs : t < (flatK stcells 4 d).size := by rw [size_flatK]; exact ht
    have e2 := get_flatK stcells 4 d t ht
    rw [getElem!_pos _ t hs, getElem!_pos d (t / 4) (by simpa using hi)] at e2
    rw [Array.getElem?_toList, Array.getElem?_eq_getElem hs, e2]
    have hl : t % 4 < (stcells d[t / 4]).length := hj
    rw [getElem!_pos (stcells d[t / 4]) (t % 4) hl]
    exact (List.getElem?_eq_getElem hl).symm
  · rw [List.getElem?_eq_none (by simp; omega), List.getElem?_eq_none (by rw [stflat_len]; simp; omega)]

set_option maxHeartbeats 800000 in
set_option maxRecDepth 60000 in
theorem tsorts_any (B : Nat) (L : List StV) (w : World) (v : Value) (hl : L.length ≤ 1000000) (h : StsAt B w v L) (hv : v ≠ .slice none 0 0) :
    Calls Tryz.prog 61 #[v, .func (.func 62) #[] #[]] w fun e w' => e = .returned (.tuple #[]) ∧ ∃ L', L'.Perm L ∧ StsAt B w' v L' ∧ w.grownBy w' v.ownBlock := by
  let z : Inhabited StV := ⟨⟨0, 0, 0, 0⟩⟩
  have h0 := h
  unfold StsAt at h0
  rcases h0.2 with ⟨rfl, hz⟩ | ⟨g, cap, cur, rfl, hb0, hb, hn, hmx, hs, ht⟩
  · exact absurd rfl hv
  · have eg : ∀ args w, (callFunc 62 args).run Tryz.prog w = .ok (.enter 62 args) w := enters_of Tryz.func62 (by kernel_rfl) rfl
    have hF : (flatK stcells 4 L.toArray).toList = L.flatMap stcells := stflatK_list L.toArray z
    have hH : HoldsK stcells 4 w g 0 L.toArray := tholds_of_blockV hb (by rw [size_flatK, hF]; exact ht)
    have hc : CmpLays Tryz.prog 62 #[] stcells 4 stF g 0 L.toArray.size w := fun _ _ _ _ x y => all1_any x y _
    refine (AnyQ.slices_SortFunc tsortLays 4 Tryz.isAgg64 Tryz.sizeOf64 stcells (fun _ => rfl) (fun x v hv => by simp [stcells] at hv; rcases hv with rfl | rfl | rfl | rfl <;> rfl) stF st_swo 62 #[] g 0 cap L.toArray w eg hc hH (Array.getElem?_eq_some_iff.1 hb).1 (by simp; omega)).mono ?_
    rintro e w' ⟨rfl, d', q, os, hp, hso, rfl⟩
    have hsz : d'.size = L.length := by have := hp.1; simpa using this
    have hperm : d'.toList.Perm L := by
      have := hp.2.2
      have e1 : d'.extract 0 L.toArray.size = d' := by rw [show L.toArray.size = d'.size by rw [hsz]; rfl]; simp
      have e2 : L.toArray.extract 0 L.toArray.size = L.toArray := by simp
      rw [e1, e2] at this
      exact this
    refine ⟨rfl, d'.toList, hperm, ?_, ?_⟩
    · unfold StsAt
      have hl' : d'.toList.length = L.length := by simpa using hsz
      rw [hl']
      refine ⟨by rw [stflat_len, hl'], .inr ⟨g, cap, _, rfl, hb0, theap_sortedV _ hb, hn, hmx, by simp [putCells, hs], ?_⟩⟩
      have e3 := ttake_putCellsV cur (flatK stcells 4 d') (by rw [size_flatK, hsz, hs]; exact Nat.mul_le_mul_right _ hn)
      rw [size_flatK, hsz, stflatK_list d' z] at e3
      exact e3
    · exact tgrownBy_sortedV _

end Go.Proofs.YthobhmejlonncaaGreat

namespace Go.Proofs.YthobhmejlonncaaGreat
open Go.RowKit Go.Sort Go.Shelf Go.Lib
set_option linter.unusedVariables false
set_option linter.unusedSimpArgs false

theorem infoSt : (Tryz.prog.info? 64).map (fun i => (i.zero, i.size, i.bytes)) = some (some (.agg #[.int .i64 0, .int .i64 0, .int .u64 0, .int .u64 0]), 4, 32) := by kernel_rfl

/-- How a transaction stands. -/
def stOf (M : MgG) (n : Int) : StV := match M.T n with | some t => ⟨t.tx, t.state, t.last, t.next⟩ | none => ⟨0, 0, 0, 0⟩

/-- The step of a range over the transactions. -/
theorem wpList_next_tx (w : World) {ops : Array Oper} {rest : List Oper} {o : Oper} {a : Act} {Q : Exit → Act → World → Prop} (hg : o.guard = none) (it : Operand) (hop : o.op = Op.next it false) (b r n : Nat) (D : DataW Value) (left : Lit → Bool) (cnt : Nat) (T : Int → Option MtV)
    (hit : a.eval it = .pointer (some ⟨r, 0, none⟩)) (h : w.ranges Tryz.prog 3 rawElem b r n D left cnt) (hkeys : ∀ l, Maps.has D l = true → ∃ n, l = xkey n ∧ T n ≠ none) (hbd : ∀ n, T n ≠ none → -9223372036854775808 ≤ n ∧ n ≤ 9223372036854775807)
    (hDone : cnt = 0 → (∀ kl, left kl = false) → wpList Tryz.prog ops Q rest (a.put o.dst (.tuple #[.bool false])) w)
    (hMore : ∀ (nm : Int) (c : Value) (w' : World) (cnt' : Nat), T nm ≠ none → left (xkey nm) = true → Maps.has D (xkey nm) = true → getV D (xkey nm) zeroT = c → w'.ranges Tryz.prog 3 rawElem b r n D (fun z => left z && !z.sameKey (xkey nm)) cnt' → cnt' < cnt →
      w.grownBy w' (some r) → w'.heap.size = w.heap.size → (Instr.entry (.pointer (some ⟨r, 0, none⟩))).run Tryz.prog w' = .ok (.tuple #[.int .i64 nm, c]) w' → wpList Tryz.prog ops Q rest (a.put o.dst (.tuple #[.bool true, .int .i64 nm, c])) w') :
    wpList Tryz.prog ops Q (o :: rest) a w := by
  refine wpList_plain hg fun K' hK' => ?_
  unfold Oper.wp
  rcases h.next xKeyed o.type with ⟨h0, hl, hrun⟩ | ⟨key, v, kl, y, w', cnt', hkey, hlk, hv, hat, hrun, hrg, hlt, hgr, hsz, hen⟩
  · simp [execOp, hop, hit, hrun, Result.andThen]
    exact hK' _ _ (hDone h0 hl)
  · have hh : Maps.has D kl = true := Maps.has_true_of_atKey hat
    obtain ⟨nm, rfl, hT⟩ := hkeys kl hh
    obtain ⟨b1, b2⟩ := hbd nm hT
    obtain rfl : key = .int .i64 nm := xKeyed.inj hkey (xkey_key b1 b2)
    have hc : getV D (xkey nm) zeroT = v := by
      unfold getV
      rw [hat (.held zeroT)]
      unfold rawElem at hv
      simp only [Option.some.injEq] at hv
      rw [← hv]
    simp [execOp, hop, hit, hrun, Result.andThen]
    exact hK' _ _ (hMore nm v w' cnt' hT hlk hh hc hrg hlt hgr hsz hen)

/-- Where the loop of All stands. -/
structure AlAt (w wr : World) (tb : Nat) (D : DataW Value) (M : MgG) (z r : Nat) (v : Value) (NL : List Int) (left : Lit → Bool) (cnt : Nat) : Prop where
  bel : Below w.heap.size w wr
  rg : wr.ranges Tryz.prog 3 rawElem tb r z D left cnt
  own : StsAt w.heap.size wr v (NL.map (stOf M))
  rn : w.heap.size ≤ r
  rv : ∀ g, v.ownBlock = some g → g ≠ r
  vn : v ≠ .slice none 0 0
  nd : NL.Nodup
  len : NL.length + cnt ≤ z
  mem : ∀ n, n ∈ NL ↔ (M.T n ≠ none ∧ left (xkey n) = false)

/-- The numbers of all transactions. -/
structure AllOf (M : MgG) (NL : List Int) : Prop where
  nd : NL.Nodup
  mem : ∀ n, n ∈ NL ↔ M.T n ≠ none

theorem AlAt.push {w wr wx : World} {tb : Nat} {D : DataW Value} {M : MgG} {z r : Nat} {v v' : Value} {NL : List Int} {left : Lit → Bool} {cnt cnt' : Nat} {nm : Int} (h : AlAt w wr tb D M z r v NL left cnt) (hT : M.T nm ≠ none) (hl0 : left (xkey nm) = true)
    (bel : Below w.heap.size w wx) (rg : wx.ranges Tryz.prog 3 rawElem tb r z D (fun z => left z && !z.sameKey (xkey nm)) cnt') (hc : cnt' < cnt) (own : StsAt w.heap.size wx v' ((NL ++ [nm]).map (stOf M))) (rv : ∀ g, v'.ownBlock = some g → g ≠ r) (vn : v' ≠ .slice none 0 0) : AlAt w wx tb D M z r v' (NL ++ [nm]) (fun z => left z && !z.sameKey (xkey nm)) cnt' := by
  have hnot : nm ∉ NL := fun x => by have := ((h.mem nm).1 x).2; rw [hl0] at this; cases this
  refine ⟨bel, rg, own, h.rn, rv, vn, ?_, by have := h.len; rw [List.length_append]; simp; omega, fun n => ?_⟩
  · rw [List.nodup_append]
    exact ⟨h.nd, by simp, fun a ha b hb e => by simp at hb; subst hb; subst e; exact hnot ha⟩
  · rw [List.mem_append, h.mem n]
    by_cases e : n = nm
    · subst e
      simp [hT, WideAt.sameKey_self (xkey_lit n)]
    · have : (xkey n).sameKey (xkey nm) = false := Maps.sameKey_ne (xkey_ne e)
      simp [this, e]

section
variable {w : World} {m p : Nat} {X : Int → Nat} {A : Nat → Prop} {P : PG} {l : LG} {d : DG} {M : MgG}

set_option maxHeartbeats 3200000 in
set_option maxRecDepth 20000 in
theorem all_any (h : MSys w m p X A P l d M) (hz : M.z ≤ 1000) (hbd : ∀ n, M.T n ≠ none → n ≤ 2147483647) :
    Calls Tryz.prog 27 #[.pointer (some ⟨m, 0, none⟩)] w fun e w' => ∃ v NL L, e = .returned v ∧ AllOf M NL ∧ L.Perm (NL.map (stOf M)) ∧ StsAt w.heap.size w' v L ∧ Below w.heap.size w w' := by
  obtain ⟨i0, hi, hzz⟩ := Option.map_eq_some_iff.1 infoSt
  simp only [Prod.mk.injEq] at hzz
  obtain ⟨hz0, hz1, hz2⟩ := hzz
  obtain ⟨B, ⟨tb, dn, D, S, hM⟩, _, _⟩ := h.mgr
  have HT := hidx hM
  have HBD : Hid (∀ n, M.T n ≠ none → -9223372036854775808 ≤ n ∧ n ≤ 9223372036854775807) := fun n hn => by
    have := hbd n hn
    cases e : M.T n with
    | none => exact absurd e hn
    | some t => have := (hM.yes n t e).2.2.2; omega
  have c1 : w.cell? ⟨m, 1, none⟩ = some (.map (some tb)) := hM.blk.cell 1
  have hm1 := hM.map.1
  have hm2 := hM.map.2
  have hlt := hM.lt m hM.bm
  have hflt := hM.lt tb hM.bt
  have hlen : ∀ ty, (Builtin.len_ #[87] ty #[.map (some tb)]).run Tryz.prog w = .ok (.int .i64 M.z) w := fun ty => by
    have := hM.map.1.len (t := 87) (e := 90) Tryz.underlying87 ty
    rw [hM.map.2] at this
    exact this
  have hmk : ∀ W : World, (Instr.makeSlice 57 (.int .i64 0) (.int .i64 (M.z : Int))).run Tryz.prog W = .ok (.slice (some ⟨W.heap.size, 0, none⟩) 0 M.z) (W.alloc (.cells (madeCells #[.int .i64 0, .int .i64 0, .int .u64 0, .int .u64 0] (M.z * 4)) 64)) := fun W => by
    have hb' : (i0.bytes : Int) * (M.z : Int) ≤ 281474976710656 := by rw [hz2]; omega
    have hr := run_make (P := Tryz.prog) W 57 64 i0 (.agg #[.int .i64 0, .int .i64 0, .int .u64 0, .int .u64 0]) Tryz.underlying57 hi hz0 .i64 .i64 0 M.z (by omega) (by omega) hb' (by omega)
    simp only [Int.toNat_natCast, hz1, Int.toNat_zero] at hr
    exact hr
  clear h hM
  obtain ⟨W1, HW1⟩ : ∃ W1, Hid (W1 = w.alloc (.cells (madeCells #[.int .i64 0, .int .i64 0, .int .u64 0, .int .u64 0] (M.z * 4)) 64)) := ⟨_, rfl⟩
  have b1 : Below w.heap.size w W1 := by rw [HW1.out]; exact (Below.refl _ _).alloc (Nat.le_refl _) _
  have s1 : W1.heap.size = w.heap.size + 1 := by rw [HW1.out]; simp
  have HS1 := hidx s1
  clear s1
  have own1 : StsAt w.heap.size W1 (.slice (some ⟨w.heap.size, 0, none⟩) 0 M.z) (([] : List Int).map (stOf M)) := by
    rw [HW1.out]
    refine ⟨rfl, .inr ⟨w.heap.size, M.z, _, rfl, Nat.le_refl _, heap_alloc_new w _, Nat.zero_le _, by unfold maxLen; omega, ?_, by simp⟩⟩
    simp [madeCells]
  have c1' : W1.cell? ⟨m, 1, none⟩ = some (.map (some tb)) := (b1.cell (p := ⟨m, 1, none⟩) hlt).trans c1
  have hm1' : W1.ownsMap Tryz.prog 3 rawElem tb M.z D := (HT.out.map.same (b1.block tb hflt)).1
  go_enter Tryz.func27, Tryz.ntmps27
  go_upto_region 4 with fail
  rw [← HW1.out]
  go_wp2_with (at_range; refine wpList_range_own _ rfl _ 87 rfl 3 90 xKeyed Tryz.underlying87 _ tb M.z D rfl hm1' ?_; intro w0 hrg0 hg0 hs0)
  go_frame
  have s1 := HS1.out
  have HA0 : Hid (AlAt w w0 tb D M M.z W1.heap.size (.slice (some ⟨w.heap.size, 0, none⟩) 0 M.z) [] (Maps.has D) M.z) := by
    refine ⟨⟨hg0.os.trans b1.os, hg0.tape.trans b1.tape, hg0.output.trans b1.output, Nat.le_trans b1.size hg0.size, fun k hk => (hg0.block k (by omega) (by simp)).trans (b1.block k hk)⟩, by rw [hm2] at hrg0; exact hrg0, own1.same fun g hg => hg0.block g (own1.lt g hg).2 (by simp), by omega, ?_, (by intro e; cases e), List.nodup_nil, by simp, fun n => ?_⟩
    · intro g hg
      cases hg
      show w.heap.size ≠ W1.heap.size
      omega
    · constructor
      · intro x; simp at x
      · rintro ⟨x, y⟩
        cases e : M.T n with
        | none => exact absurd e x
        | some t => have := (HT.out.yes n t e).1; rw [this] at y; cases y
  clear s1 hrg0 hg0 hs0 hm1' c1' own1 hmk hlen hm1 c1 b1 HW1
  go_loopw [3] (fun t wr => ∃ NL left cnt, Hid (AlAt w wr tb D M M.z W1.heap.size t NL left cnt)) (fun _ wr => wr.rangeLeft tb W1.heap.size)
  case atStart => exact ⟨_, _, _, HA0⟩
  case round =>
    obtain ⟨NL, left, cnt, HA⟩ := hrel
    clear HA0
    go_wp2_with (at_next; refine wpList_next_tx _ rfl _ rfl tb W1.heap.size M.z D left cnt M.T rfl HA.out.rg HT.out.keys HBD.out ?_ ?_)
    · intro _ hl0
      have HSo := tsorts_any w.heap.size (NL.map (stOf M)) wr u3 (by have := HA.out.len; rw [List.length_map]; omega) HA.out.own HA.out.vn
      have HNO : Hid (AllOf M NL) := ⟨HA.out.nd, fun n => (HA.out.mem n).trans ⟨fun x => x.1, fun x => ⟨x, hl0 _⟩⟩⟩
      have HBL : Hid (Below w.heap.size w wr ∧ ∀ g, u3.ownBlock = some g → w.heap.size ≤ g) := ⟨HA.out.bel, fun g hg => (HA.out.own.lt g hg).1⟩
      clear HA hl0 HT
      go_wp2_with fail
      refine HSo.mono ?_
      rintro e w2 ⟨rfl, L', hp, ho, hk⟩
      have HN2 : Hid (AllOf M NL ∧ L'.Perm (NL.map (stOf M)) ∧ StsAt w.heap.size w2 u3 L' ∧ Below w.heap.size w w2) := ⟨HNO.out, hp, ho, ⟨hk.os.trans HBL.out.1.os, hk.tape.trans HBL.out.1.tape, hk.output.trans HBL.out.1.output, Nat.le_trans HBL.out.1.size hk.size, fun k hk' => (hk.block k (Nat.lt_of_lt_of_le hk' HBL.out.1.size) (fun q => by have := HBL.out.2 k q.symm; omega)).trans (HBL.out.1.block k hk')⟩⟩
      clear HSo HNO HBL hp ho hk
      go_wp2
      go_ret
      exact ⟨u3, NL, L', rfl, HN2.out⟩
    · intro nm c w' cnt' hT hl0 hh hgv hrg' hc hgr hsz hen
      obtain ⟨t, ht⟩ : ∃ t, M.T nm = some t := by
        cases e : M.T nm with
        | none => exact absurd e hT
        | some t => exact ⟨t, rfl⟩
      obtain ⟨y1, y2, y3, y4⟩ := HT.out.yes nm t ht
      rw [y2] at hgv
      subst hgv
      have hr0 := HA.out.rn
      have hX : X nm < w.heap.size := y3.lt _ y3.sb
      have B1 : Below w.heap.size w w' := ⟨hgr.os.trans HA.out.bel.os, hgr.tape.trans HA.out.bel.tape, hgr.output.trans HA.out.bel.output, Nat.le_trans HA.out.bel.size hgr.size, fun k hk => (hgr.block k (Nat.lt_of_lt_of_le hk HA.out.bel.size) (fun q => by cases q; omega)).trans (HA.out.bel.block k hk)⟩
      have yT := y3.same (fun i hi => B1.block i (y3.lt i hi)) B1.size
      have q0 := yT.cells.c0
      have q1 := yT.cells.c1
      have q2 := yT.cells.c2
      have q3 := yT.cells.c3
      have own' : StsAt w.heap.size w' u3 (NL.map (stOf M)) := HA.out.own.same fun g hg => hgr.block g (HA.out.own.lt g hg).2 (fun q => by cases q; exact HA.out.rv _ hg rfl)
      obtain ⟨V, HV⟩ : ∃ V, Hid (V = w'.alloc (.cells #[.int .i64 t.tx, .int .i64 t.state, .int .u64 t.last, .int .u64 t.next] 64)) := ⟨_, rfl⟩
      have bV : Below w'.heap.size w' V := by rw [HV.out]; exact (Below.refl _ _).alloc (Nat.le_refl _) _
      have ownV := hidx (own'.same fun g hg => bV.block g (own'.lt g hg).2)
      have hnews : Hid (∀ j u, [Value.int .i64 t.tx, Value.int .i64 t.state, Value.int .u64 t.last, Value.int .u64 t.next][j]? = some u → V.cell? ((⟨w'.heap.size, 0, none⟩ : Addr).add j) = some u) := by
        show ∀ j u, _
        rw [HV.out]
        exact World.news_of_block (heap_alloc_new _ _)
      have HPU : Hid (∀ (g cap : Nat) w2, w2.ownsRow w.heap.size 64 4 (.slice (some ⟨g, 0, none⟩) ((NL.map (stOf M)).length + 1) cap) ((NL.map (stOf M)).length + 1) ((NL.map (stOf M)).flatMap stcells ++ [.int .i64 t.tx, .int .i64 t.state, .int .u64 t.last, .int .u64 t.next]) → V.grownBy w2 u3.ownBlock → (u3.ownBlock = some g ∨ g = V.heap.size) → AlAt w w2 tb D M M.z W1.heap.size (.slice (some ⟨g, 0, none⟩) ((NL.map (stOf M)).length + 1) cap) (NL ++ [nm]) (fun z => left z && !z.sameKey (xkey nm)) cnt') := by
        intro g cap w2 own2 grow2 loc2
        have hst : stOf M nm = ⟨t.tx, t.state, t.last, t.next⟩ := by unfold stOf; rw [ht]
        have bV2 : Below w.heap.size w w2 := by
          have bb : Below w.heap.size w V := below_chain B1 bV
          exact ⟨grow2.os.trans bb.os, grow2.tape.trans bb.tape, grow2.output.trans bb.output, Nat.le_trans bb.size grow2.size, fun k hk => (grow2.block k (Nat.lt_of_lt_of_le hk bb.size) (fun q => by have := (HA.out.own.lt k q.symm).1; omega)).trans (bb.block k hk)⟩
        refine HA.out.push hT hl0 bV2 ?_ hc ?_ ?_ (by intro e; cases e)
        · have h1 := hrg'.alloc (.cells #[.int .i64 t.tx, .int .i64 t.state, .int .u64 t.last, .int .u64 t.next] 64)
          rw [← HV.out] at h1
          exact h1.kept grow2 (fun q => by have := (HA.out.own.lt _ q.symm).1; omega) (fun q => HA.out.rv _ q.symm rfl)
        · unfold StsAt
          rw [List.map_append, List.length_append, List.flatMap_append]
          simp only [List.map_cons, List.map_nil, List.length_singleton, List.flatMap_cons, List.flatMap_nil, List.append_nil, hst]
          exact own2
        · intro g' hg'
          simp only [Value.ownBlock, Option.some.injEq] at hg'
          subst hg'
          rcases loc2 with e | e
          · exact HA.out.rv _ e
          · have h1 := hrg'.lt
            have := bV.size
            omega
      have hleft := HA.out.rg.left_eq
      have HC := hidx hc
      have HLE := hidx hleft
      clear hleft
      have hlenL : (NL.map (stOf M)).length + 1 ≤ 1001 := by have := HA.out.len; rw [List.length_map]; omega
      have HOK : Hid (w.heap.size ≤ V.heap.size) := Nat.le_trans B1.size bV.size
      clear HA hT hl0 hh hrg' hc hgr hsz B1 yT own' bV y1 y2 y3 y4 ht HT HBD
      rw [HV.out] at ownV hnews HPU HOK
      clear HV
      go_wp2_with (at_builtin; refine wpList_append_lies _ rfl _ _ 57 rfl w.heap.size 64 i0 _ 4 32 Tryz.underlying57 hi hz0 hz1 hz2 rfl (by decide) u3 (NL.map (stOf M)).length ((NL.map (stOf M)).flatMap stcells) rfl ownV.out ⟨w'.heap.size, 0, none⟩ 1 1 [.int .i64 t.tx, .int .i64 t.state, .int .u64 t.last, .int .u64 t.next] rfl rfl hnews.out (by intro u' hu'; simp at hu'; rcases hu' with rfl | rfl | rfl | rfl <;> rfl) (by decide) (by unfold maxLen; omega) (by omega) HOK.out _ rfl ?_; intro g2 cap2 w2 own2 grow2 loc2 lt2; have HN := hidx (HPU.out g2 cap2 w2 own2 grow2 loc2); clear own2 grow2 loc2 lt2)
      go_roundw
      case rel => rw [List.length_map] at HN; exact ⟨_, _, _, HN⟩
      case measure => rw [HN.out.rg.left_eq, HLE.out]; exact HC.out

end

end Go.Proofs.YthobhmejlonncaaGreat
