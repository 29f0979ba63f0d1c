/-
  slices.SortFunc at transactions' states and at dirty pages, with the orders that found hands in; slices.MinFunc at dirty pages.
-/
import Derived.Test.YtgkfdakieebnmaaGreatAnMJ
import Derived.Test.YtgkfdakieebnmaaGreatRowOpsJ
import Derived.Shelf.SlSortCmp.WholeK
import Derived.Sort.OwnSortedInts
set_option linter.unusedVariables false
set_option linter.unusedSimpArgs false
namespace Go.Proofs.YtgkfdakieebnmaaGreat
open Go.RowKit Go.Shelf Go.Lib Go.Sort

def cmpA (x y : Int) : Int := if x < y then -1 else if y < x then 1 else 0

theorem cmpA_lt (a b : Int) : cmpA a b < 0 ↔ a < b := by
  unfold cmpA; split
  · omega
  · split <;> omega

theorem aholds_of_block {w : World} {g : Nat} {cur : Array Value} {e : TypeId} {F : Array Value} (hb : w.heap[g]? = some (.cells cur e (0, 0))) (ht : cur.toList.take F.size = F.toList) : Holds id w g 0 F := by
  intro j hj
  refine ⟨?_, by simp [World.frozen?, hb]⟩
  have h1 : (cur.toList.take F.size)[j]? = F.toList[j]? := by rw [ht]
  rw [List.getElem?_take_of_lt hj] at h1
  simp only [World.cell?, hb, Nat.zero_add]
  simp only [Option.isSome_none, Bool.false_eq_true, if_false]
  rw [← Array.getElem?_toList, h1]
  simp [hj]

theorem aheap_sorted {w : World} {g n : Nat} {os : Array Obj} {cur : Array Value} {e : TypeId} {fr : Nat × Nat} (d : Array Value) (hb : w.heap[g]? = some (.cells cur e fr)) :
    (grow (putRow id (Sort.ahead w n) g 0 d) os).heap[g]? = some (.cells (putCells id 0 d cur) e fr) := by
  have hg : g < w.heap.size := (Array.getElem?_eq_some_iff.1 hb).1
  rw [heap_grow_old _ _ (by simpa using hg)]
  simp [putRow, mapBlock, Sort.ahead, Array.getElem?_modify, hb, onCells]

theorem agrownBy_sorted {w : World} {g n : Nat} {os : Array Obj} (d : Array Value) : w.grownBy (grow (putRow id (Sort.ahead w n) g 0 d) os) (some g) := by
  refine ⟨rfl, rfl, rfl, by simp, fun k hk hne => ?_⟩
  rw [heap_grow_old _ _ (by simpa using hk)]
  have : g ≠ k := fun e => hne (by rw [e])
  simp [putRow, mapBlock, Sort.ahead, Array.getElem?_modify, this]

theorem atake_putCells (cur F : Array Value) (h : F.size ≤ cur.size) : (putCells id 0 F cur).toList.take F.size = F.toList := by
  apply List.ext_getElem?
  intro j
  by_cases hj : j < F.size
  · rw [List.getElem?_take_of_lt hj, Array.getElem?_toList]
    simp [putCells, hj, show j < cur.size by omega]
  · rw [List.getElem?_take_eq_none (by omega), List.getElem?_eq_none (by simp; omega)]

set_option maxHeartbeats 800000 in
set_option maxRecDepth 60000 in
theorem icmp_any (x y : Int) (w : World) : Calls Tryz.prog 91 #[.int .i64 x, .int .i64 y] w fun e w' => e = .returned (.int .i64 (cmpA x y)) ∧ w' = w := by
  have hn : ∀ (z : Int) wx, Calls Tryz.prog 148 #[.int .i64 z] wx fun e w' => e = .returned (.bool false) ∧ w' = wx := fun z wx => by
    go_enter Tryz.func148, Tryz.ntmps148
    go_wp2
    go_ret
    exact ⟨rfl, rfl⟩
  unfold cmpA
  rcases Int.lt_trichotomy x y with h | h | h
  · rw [if_pos h]
    go_enter Tryz.func91, Tryz.ntmps91
    go_wp2_with (go_at_call 148; refine (hn _ _).mono ?_; rintro e w' ⟨rfl, rfl⟩)
    go_ret
    exact ⟨rfl, rfl⟩
  · subst h
    rw [if_neg (by omega), if_neg (by omega)]
    go_enter Tryz.func91, Tryz.ntmps91
    go_wp2_with (go_at_call 148; refine (hn _ _).mono ?_; rintro e w' ⟨rfl, rfl⟩)
    go_ret
    exact ⟨rfl, rfl⟩
  · have h1 : ¬ x < y := by omega
    rw [if_neg h1, if_pos h]
    go_enter Tryz.func91, Tryz.ntmps91
    go_wp2_with (go_at_call 148; refine (hn _ _).mono ?_; rintro e w' ⟨rfl, rfl⟩)
    go_ret
    exact ⟨rfl, rfl⟩

set_option maxHeartbeats 800000 in
set_option maxRecDepth 60000 in
theorem pcmp_any (x y : Int) (w : World) : Calls Tryz.prog 94 #[.int .u32 x, .int .u32 y] w fun e w' => e = .returned (.int .i64 (cmpA x y)) ∧ w' = w := by
  have hn : ∀ (z : Int) wx, Calls Tryz.prog 150 #[.int .u32 z] wx fun e w' => e = .returned (.bool false) ∧ w' = wx := fun z wx => by
    go_enter Tryz.func150, Tryz.ntmps150
    go_wp2
    go_ret
    exact ⟨rfl, rfl⟩
  unfold cmpA
  rcases Int.lt_trichotomy x y with h | h | h
  · rw [if_pos h]
    go_enter Tryz.func94, Tryz.ntmps94
    go_wp2_with (go_at_call 150; refine (hn _ _).mono ?_; rintro e w' ⟨rfl, rfl⟩)
    go_ret
    exact ⟨rfl, rfl⟩
  · subst h
    rw [if_neg (by omega), if_neg (by omega)]
    go_enter Tryz.func94, Tryz.ntmps94
    go_wp2_with (go_at_call 150; refine (hn _ _).mono ?_; rintro e w' ⟨rfl, rfl⟩)
    go_ret
    exact ⟨rfl, rfl⟩
  · have h1 : ¬ x < y := by omega
    rw [if_neg h1, if_pos h]
    go_enter Tryz.func94, Tryz.ntmps94
    go_wp2_with (go_at_call 150; refine (hn _ _).mono ?_; rintro e w' ⟨rfl, rfl⟩)
    go_ret
    exact ⟨rfl, rfl⟩

set_option maxHeartbeats 800000 in
set_option maxRecDepth 60000 in
theorem lcmp_any (x y : Int) (w : World) : Calls Tryz.prog 97 #[.int .u64 x, .int .u64 y] w fun e w' => e = .returned (.int .i64 (cmpA x y)) ∧ w' = w := by
  have hn : ∀ (z : Int) wx, Calls Tryz.prog 151 #[.int .u64 z] wx fun e w' => e = .returned (.bool false) ∧ w' = wx := fun z wx => by
    go_enter Tryz.func151, Tryz.ntmps151
    go_wp2
    go_ret
    exact ⟨rfl, rfl⟩
  unfold cmpA
  rcases Int.lt_trichotomy x y with h | h | h
  · rw [if_pos h]
    go_enter Tryz.func97, Tryz.ntmps97
    go_wp2_with (go_at_call 151; refine (hn _ _).mono ?_; rintro e w' ⟨rfl, rfl⟩)
    go_ret
    exact ⟨rfl, rfl⟩
  · subst h
    rw [if_neg (by omega), if_neg (by omega)]
    go_enter Tryz.func97, Tryz.ntmps97
    go_wp2_with (go_at_call 151; refine (hn _ _).mono ?_; rintro e w' ⟨rfl, rfl⟩)
    go_ret
    exact ⟨rfl, rfl⟩
  · have h1 : ¬ x < y := by omega
    rw [if_neg h1, if_pos h]
    go_enter Tryz.func97, Tryz.ntmps97
    go_wp2_with (go_at_call 151; refine (hn _ _).mono ?_; rintro e w' ⟨rfl, rfl⟩)
    go_ret
    exact ⟨rfl, rfl⟩

def atcells (x : TxV) : List Value := [.int .i64 x.1, .int .i64 x.2.1, .int .u64 x.2.2.1, .int .u64 x.2.2.2]
def atxF (x y : TxV) : Int := cmpA x.1 y.1
def adcells (x : DiV) : List Value := [.int .u32 x.1, .int .u64 x.2]
def adxF (x y : DiV) : Int := cmpA x.1 y.1
def adsF (x y : DiV) : Int := cmpA x.2 y.2

set_option maxHeartbeats 1600000 in
set_option maxRecDepth 60000 in
theorem atxclo_any (x y : TxV) (w : World) : Calls Tryz.prog 90 #[.agg (atcells x).toArray, .agg (atcells y).toArray] w fun e w' => e = .returned (.int .i64 (atxF x y)) ∧ ∃ q os', w' = grow (w.drewN q) os' := by
  have hI : ∀ (wx : World), Calls Tryz.prog 91 #[.int .i64 x.1, .int .i64 y.1] wx fun e w' => e = .returned (.int .i64 (atxF x y)) ∧ w' = wx := icmp_any _ _
  have HI := hida hI
  have HA : Hid (∀ z : TxV, (atcells z).toArray = #[.int .i64 z.1, .int .i64 z.2.1, .int .u64 z.2.2.1, .int .u64 z.2.2.2]) := fun _ => rfl
  rw [HA.out x, HA.out y]
  clear hI HA
  generalize atxF x y = F at *
  go_enter Tryz.func90, Tryz.ntmps90
  go_wp2_with fail
  refine (HI.out _).mono ?_
  rintro e w1 ⟨rfl, rfl⟩
  go_wp2
  go_ret
  exact ⟨rfl, 0, #[_, _], rfl⟩

theorem atx_swo : SWO (ltOf atxF) := by
  refine ⟨fun x => ?_, fun x y z => ?_, fun x y z => ?_⟩
  · unfold ltOf atxF
    rw [decide_eq_false_iff_not, cmpA_lt]
    omega
  · unfold ltOf atxF
    rw [decide_eq_true_iff, decide_eq_true_iff, decide_eq_true_iff, cmpA_lt, cmpA_lt, cmpA_lt]
    omega
  · unfold ltOf atxF
    rw [decide_eq_false_iff_not, decide_eq_false_iff_not, decide_eq_false_iff_not, cmpA_lt, cmpA_lt, cmpA_lt]
    omega

def atAt (B : Nat) (w : World) (v : Value) (L : List TxV) : Prop := w.ownsRow B 161 4 v L.length (L.flatMap atcells)

theorem atAt.same {B : Nat} {w w' : World} {v : Value} {L : List TxV} (h : atAt B w v L) (k : ∀ g, v.ownBlock = some g → w'.heap[g]? = w.heap[g]?) : atAt B w' v L := by
  refine ⟨h.1, ?_⟩
  rcases h.2 with ⟨rfl, h1⟩ | ⟨g', cap, cur, rfl, h0, hb, hr⟩
  · exact .inl ⟨rfl, h1⟩
  · exact .inr ⟨g', cap, cur, rfl, h0, (k g' rfl).trans hb, hr⟩
theorem atAt.lt {B : Nat} {w : World} {v : Value} {L : List TxV} (h : atAt B w v L) : ∀ g, v.ownBlock = some g → B ≤ g ∧ g < w.heap.size := fun g hg => World.ownsRow.lt h g hg
theorem atAt.val {B : Nat} {w : World} {v : Value} {L : List TxV} (h : atAt B w v L) : ∃ a c, v = .slice a L.length c := by
  rcases h.2 with ⟨rfl, h1⟩ | ⟨g', cap, cur, rfl, h0, hb, hr⟩
  · exact ⟨_, _, by rw [h1]⟩
  · exact ⟨_, _, rfl⟩
theorem atAt.nil (B : Nat) (w : World) : atAt B w (.slice none 0 0) [] := ⟨rfl, .inl ⟨rfl, rfl⟩⟩

theorem atflat_get (L : List TxV) (i j : Nat) (hi : i < L.length) (hj : j < 4) : (L.flatMap atcells)[i * 4 + j]? = (atcells L[i])[j]? := by
  induction L generalizing i with
  | nil => simp at hi
  | cons p L ih =>
    rw [List.flatMap_cons]
    have h4 : (atcells p).length = 4 := rfl
    match i, hi with
    | 0, _ =>
      rw [List.getElem?_append_left (by omega)]
      simp
    | i + 1, hi =>
      rw [List.getElem?_append_right (by omega)]
      have : (i + 1) * 4 + j - (atcells p).length = i * 4 + j := by rw [h4]; omega
      rw [this]
      exact ih i (by simpa using hi)

theorem atflat_len (L : List TxV) : (L.flatMap atcells).length = L.length * 4 := by
  induction L with
  | nil => rfl
  | cons p L ih =>
    rw [List.flatMap_cons, List.length_append, ih]
    show 4 + _ = _
    simp
    omega

theorem atflatK_list (d : Array TxV) (z : Inhabited TxV) : (flatK atcells 4 d).toList = d.toList.flatMap atcells := by
  apply List.ext_getElem?
  intro t
  by_cases ht : t < d.size * 4
  · have hi : t / 4 < d.toList.length := by simp; omega
    have hj : t % 4 < 4 := Nat.mod_lt _ (by omega)
    have e := atflat_get d.toList (t / 4) (t % 4) hi hj
    rw [show t / 4 * 4 + t % 4 = t by omega] at e
    rw [e]
    have hs : t < (flatK atcells 4 d).size := by rw [size_flatK]; exact ht
    have e2 := get_flatK atcells 4 d t ht
    rw [getElem!_pos _ t hs, getElem!_pos d (t / 4) (by simpa using hi)] at e2
    rw [Array.getElem?_toList, Array.getElem?_eq_getElem hs, e2]
    have hl : t % 4 < (atcells d[t / 4]).length := hj
    rw [getElem!_pos (atcells d[t / 4]) (t % 4) hl]
    exact (List.getElem?_eq_getElem hl).symm
  · rw [List.getElem?_eq_none (by simp; omega), List.getElem?_eq_none (by rw [atflat_len]; simp; omega)]

set_option maxHeartbeats 800000 in
set_option maxRecDepth 60000 in
theorem atsorts_own (B : Nat) (L : List TxV) (w : World) (v : Value) (hl : L.length ≤ 1000000) (h : atAt B w v L) (hv : v ≠ .slice none 0 0) :
    Calls Tryz.prog 89 #[v, .func (.func 90) #[] #[]] w fun e w' => e = .returned (.tuple #[]) ∧ ∃ L', L'.Perm L ∧ L'.Pairwise (fun a b => ¬ atxF b a < 0) ∧ atAt B w' v L' ∧ w.grownBy w' v.ownBlock := by
  let z : Inhabited TxV := ⟨(0, 0, 0, 0)⟩
  have h0 := h
  unfold atAt at h0
  rcases h0.2 with ⟨rfl, hz⟩ | ⟨g, cap, cur, rfl, hb0, hb, hn, hmx, hs, ht⟩
  · exact absurd rfl hv
  · have eg : ∀ args w, (callFunc 90 args).run Tryz.prog w = .ok (.enter 90 args) w := enters_of Tryz.func90 (by kernel_rfl) rfl
    have hF : (flatK atcells 4 L.toArray).toList = L.flatMap atcells := atflatK_list L.toArray z
    have hH : HoldsK atcells 4 w g 0 L.toArray := aholds_of_block hb (by rw [size_flatK, hF]; exact ht)
    have hc : CmpLays Tryz.prog 90 #[] atcells 4 atxF g 0 L.toArray.size w := fun _ _ _ _ x y => atxclo_any x y _
    refine (AnyQ.slices_SortFunc tsortLays 4 Tryz.isAgg161 Tryz.sizeOf161 atcells (fun _ => rfl) (fun x v hv => by simp [atcells] at hv; rcases hv with rfl | rfl | rfl | rfl <;> rfl) atxF atx_swo 90 #[] g 0 cap L.toArray w eg hc hH (Array.getElem?_eq_some_iff.1 hb).1 (by simp; omega)).mono ?_
    rintro e w' ⟨rfl, d', q, os, hp, hso, rfl⟩
    have hsz : d'.size = L.length := by have := hp.1; simpa using this
    have hperm : d'.toList.Perm L := by
      have := hp.2.2
      have e1 : d'.extract 0 L.toArray.size = d' := by rw [show L.toArray.size = d'.size by rw [hsz]; rfl]; simp
      have e2 : L.toArray.extract 0 L.toArray.size = L.toArray := by simp
      rw [e1, e2] at this
      exact this
    refine ⟨rfl, d'.toList, hperm, ?_, ?_, ?_⟩
    · rw [List.pairwise_iff_getElem]
      intro i j hi hj hij
      have hsi : i < d'.size := by simpa using hi
      have hsj : j < d'.size := by simpa using hj
      have := hso i j (Nat.zero_le _) hij (by have : L.toArray.size = d'.size := by rw [hsz]; rfl
                                              omega)
      rw [getElem!_pos d' j hsj, getElem!_pos d' i hsi] at this
      unfold ltOf at this
      simpa using of_decide_eq_false this
    · unfold atAt
      have hl' : d'.toList.length = L.length := by simpa using hsz
      rw [hl']
      refine ⟨by rw [atflat_len, hl'], .inr ⟨g, cap, _, rfl, hb0, aheap_sorted _ hb, hn, hmx, by simp [putCells, hs], ?_⟩⟩
      have e3 := atake_putCells cur (flatK atcells 4 d') (by rw [size_flatK, hsz, hs]; exact Nat.mul_le_mul_right _ hn)
      rw [size_flatK, hsz, atflatK_list d' z] at e3
      exact e3
    · exact agrownBy_sorted _

set_option maxHeartbeats 800000 in
set_option maxRecDepth 60000 in
theorem atsorts_nil (w : World) : Calls Tryz.prog 89 #[.slice none 0 0, .func (.func 90) #[] #[]] w fun e w' => e = .returned (.tuple #[]) ∧ Below w.heap.size w w' := by
  have hI : ∀ wx : World, Calls Tryz.prog 180 #[.slice none 0 0, .int .i64 0, .int .i64 0, .func (.func 90) #[] #[]] wx fun e w' => e = .returned (.tuple #[]) ∧ Below wx.heap.size wx w' := fun wx => by
    go_enter Tryz.func180, Tryz.ntmps180
    go_wp2_with fail
    go_loop [8] (fun i => i = .int .i64 1) (fun _ => 0)
    case atStart => rfl
    case round =>
      obtain rfl := hrel
      go_wp2_with fail
      go_end0
      exact ⟨rfl, Below.refl _ _⟩
  have hP : ∀ (l : Int) (wx : World), Calls Tryz.prog 146 #[.slice none 0 0, .int .i64 0, .int .i64 0, .int .i64 l, .func (.func 90) #[] #[]] wx fun e w' => e = .returned (.tuple #[]) ∧ Below wx.heap.size wx w' := fun l wx => by
    have HI := hida hI
    clear hI
    go_enter Tryz.func146, Tryz.ntmps146
    go_wp2_with fail
    go_loopw [1, 2] (fun a b wr => a = .int .i64 0 ∧ b = .int .i64 0 ∧ wr = wx) (fun _ _ _ => 0)
    case atStart => exact ⟨rfl, rfl, rfl⟩
    case round =>
      obtain ⟨rfl, rfl, rfl⟩ := hrel
      go_wp2_with fail
      refine (HI.out _).mono ?_
      rintro e w1 ⟨rfl, H⟩
      have HH := hida H
      clear H
      go_wp2
      refine bodyPost_ret (results_none rfl _ _ _) rfl ?_
      exact ⟨rfl, HH.out⟩
  have HL : Hid (∀ wx, Calls Tryz.prog 147 #[.int .u64 0] wx fun e w' => (∃ l : Int, e = .returned (.int .i64 l)) ∧ wx = w') := fun wx => (Any.bits_Len lenLays (0 : Int) wx (by omega) (by omega)).mono (by rintro e w' ⟨rfl, rfl⟩; exact ⟨⟨_, rfl⟩, rfl⟩)
  have HP := hida hP
  clear hP hI
  go_enter Tryz.func89, Tryz.ntmps89
  go_wp2_with fail
  refine (HL.out _).mono ?_
  rintro e w1 ⟨⟨l, rfl⟩, rfl⟩
  go_wp2_with fail
  refine (HP.out l _).mono ?_
  rintro e w2 ⟨rfl, H⟩
  have HH := hida H
  clear H
  go_wp2
  go_end0
  exact ⟨rfl, HH.out⟩

theorem atsorts_any (B : Nat) (L : List TxV) (w : World) (v : Value) (hl : L.length ≤ 1000000) (h : atAt B w v L) (hv : v = .slice none 0 0 ∨ v ≠ .slice none 0 0) :
    Calls Tryz.prog 89 #[v, .func (.func 90) #[] #[]] w fun e w' => e = .returned (.tuple #[]) ∧ ∃ L', L'.Perm L ∧ L'.Pairwise (fun a b => ¬ atxF b a < 0) ∧ atAt B w' v L' ∧ w.grownBy w' v.ownBlock := by
  rcases hv with rfl | hv
  · have hz : L = [] := by
      rcases h.2 with ⟨_, h1⟩ | ⟨g, cap, cur, e, _⟩
      · exact List.length_eq_zero_iff.1 h1
      · cases e
    subst hz
    refine (atsorts_nil w).mono ?_
    rintro e w' ⟨rfl, b⟩
    exact ⟨rfl, [], List.Perm.refl _, .nil, atAt.nil B w', ⟨b.os, b.tape, b.output, b.size, fun k hk _ => b.block k hk⟩⟩
  · exact atsorts_own B L w v hl h hv

set_option maxHeartbeats 1600000 in
set_option maxRecDepth 60000 in
theorem adxclo_any (x y : DiV) (w : World) : Calls Tryz.prog 93 #[.agg (adcells x).toArray, .agg (adcells y).toArray] w fun e w' => e = .returned (.int .i64 (adxF x y)) ∧ ∃ q os', w' = grow (w.drewN q) os' := by
  have hI : ∀ (wx : World), Calls Tryz.prog 94 #[.int .u32 x.1, .int .u32 y.1] wx fun e w' => e = .returned (.int .i64 (adxF x y)) ∧ w' = wx := pcmp_any _ _
  have HI := hida hI
  have HA : Hid (∀ z : DiV, (adcells z).toArray = #[.int .u32 z.1, .int .u64 z.2]) := fun _ => rfl
  rw [HA.out x, HA.out y]
  clear hI HA
  generalize adxF x y = F at *
  go_enter Tryz.func93, Tryz.ntmps93
  go_wp2_with fail
  refine (HI.out _).mono ?_
  rintro e w1 ⟨rfl, rfl⟩
  go_wp2
  go_ret
  exact ⟨rfl, 0, #[_, _], rfl⟩

theorem adx_swo : SWO (ltOf adxF) := by
  refine ⟨fun x => ?_, fun x y z => ?_, fun x y z => ?_⟩
  · unfold ltOf adxF
    rw [decide_eq_false_iff_not, cmpA_lt]
    omega
  · unfold ltOf adxF
    rw [decide_eq_true_iff, decide_eq_true_iff, decide_eq_true_iff, cmpA_lt, cmpA_lt, cmpA_lt]
    omega
  · unfold ltOf adxF
    rw [decide_eq_false_iff_not, decide_eq_false_iff_not, decide_eq_false_iff_not, cmpA_lt, cmpA_lt, cmpA_lt]
    omega

def adAt (B : Nat) (w : World) (v : Value) (L : List DiV) : Prop := w.ownsRow B 166 2 v L.length (L.flatMap adcells)

theorem adAt.same {B : Nat} {w w' : World} {v : Value} {L : List DiV} (h : adAt B w v L) (k : ∀ g, v.ownBlock = some g → w'.heap[g]? = w.heap[g]?) : adAt B w' v L := by
  refine ⟨h.1, ?_⟩
  rcases h.2 with ⟨rfl, h1⟩ | ⟨g', cap, cur, rfl, h0, hb, hr⟩
  · exact .inl ⟨rfl, h1⟩
  · exact .inr ⟨g', cap, cur, rfl, h0, (k g' rfl).trans hb, hr⟩
theorem adAt.lt {B : Nat} {w : World} {v : Value} {L : List DiV} (h : adAt B w v L) : ∀ g, v.ownBlock = some g → B ≤ g ∧ g < w.heap.size := fun g hg => World.ownsRow.lt h g hg
theorem adAt.val {B : Nat} {w : World} {v : Value} {L : List DiV} (h : adAt B w v L) : ∃ a c, v = .slice a L.length c := by
  rcases h.2 with ⟨rfl, h1⟩ | ⟨g', cap, cur, rfl, h0, hb, hr⟩
  · exact ⟨_, _, by rw [h1]⟩
  · exact ⟨_, _, rfl⟩
theorem adAt.nil (B : Nat) (w : World) : adAt B w (.slice none 0 0) [] := ⟨rfl, .inl ⟨rfl, rfl⟩⟩

theorem adflat_get (L : List DiV) (i j : Nat) (hi : i < L.length) (hj : j < 2) : (L.flatMap adcells)[i * 2 + j]? = (adcells L[i])[j]? := by
  induction L generalizing i with
  | nil => simp at hi
  | cons p L ih =>
    rw [List.flatMap_cons]
    have h4 : (adcells p).length = 2 := rfl
    match i, hi with
    | 0, _ =>
      rw [List.getElem?_append_left (by omega)]
      simp
    | i + 1, hi =>
      rw [List.getElem?_append_right (by omega)]
      have : (i + 1) * 2 + j - (adcells p).length = i * 2 + j := by rw [h4]; omega
      rw [this]
      exact ih i (by simpa using hi)

theorem adflat_len (L : List DiV) : (L.flatMap adcells).length = L.length * 2 := by
  induction L with
  | nil => rfl
  | cons p L ih =>
    rw [List.flatMap_cons, List.length_append, ih]
    show 2 + _ = _
    simp
    omega

theorem adflatK_list (d : Array DiV) (z : Inhabited DiV) : (flatK adcells 2 d).toList = d.toList.flatMap adcells := by
  apply List.ext_getElem?
  intro t
  by_cases ht : t < d.size * 2
  · have hi : t / 2 < d.toList.length := by simp; omega
    have hj : t % 2 < 2 := Nat.mod_lt _ (by omega)
    have e := adflat_get d.toList (t / 2) (t % 2) hi hj
    rw [show t / 2 * 2 + t % 2 = t by omega] at e
    rw [e]
    have hs : t < (flatK adcells 2 d).size := by rw [size_flatK]; exact ht
    have e2 := get_flatK adcells 2 d t ht
    rw [getElem!_pos _ t hs, getElem!_pos d (t / 2) (by simpa using hi)] at e2
    rw [Array.getElem?_toList, Array.getElem?_eq_getElem hs, e2]
    have hl : t % 2 < (adcells d[t / 2]).length := hj
    rw [getElem!_pos (adcells d[t / 2]) (t % 2) hl]
    exact (List.getElem?_eq_getElem hl).symm
  · rw [List.getElem?_eq_none (by simp; omega), List.getElem?_eq_none (by rw [adflat_len]; simp; omega)]

set_option maxHeartbeats 800000 in
set_option maxRecDepth 60000 in
theorem adsorts_own (B : Nat) (L : List DiV) (w : World) (v : Value) (hl : L.length ≤ 1000000) (h : adAt B w v L) (hv : v ≠ .slice none 0 0) :
    Calls Tryz.prog 92 #[v, .func (.func 93) #[] #[]] w fun e w' => e = .returned (.tuple #[]) ∧ ∃ L', L'.Perm L ∧ L'.Pairwise (fun a b => ¬ adxF b a < 0) ∧ adAt B w' v L' ∧ w.grownBy w' v.ownBlock := by
  let z : Inhabited DiV := ⟨(0, 0)⟩
  have h0 := h
  unfold adAt at h0
  rcases h0.2 with ⟨rfl, hz⟩ | ⟨g, cap, cur, rfl, hb0, hb, hn, hmx, hs, ht⟩
  · exact absurd rfl hv
  · have eg : ∀ args w, (callFunc 93 args).run Tryz.prog w = .ok (.enter 93 args) w := enters_of Tryz.func93 (by kernel_rfl) rfl
    have hF : (flatK adcells 2 L.toArray).toList = L.flatMap adcells := adflatK_list L.toArray z
    have hH : HoldsK adcells 2 w g 0 L.toArray := aholds_of_block hb (by rw [size_flatK, hF]; exact ht)
    have hc : CmpLays Tryz.prog 93 #[] adcells 2 adxF g 0 L.toArray.size w := fun _ _ _ _ x y => adxclo_any x y _
    refine (AnyQ.slices_SortFunc dsortLays 2 Tryz.isAgg166 Tryz.sizeOf166 adcells (fun _ => rfl) (fun x v hv => by simp [adcells] at hv; rcases hv with rfl | rfl <;> rfl) adxF adx_swo 93 #[] g 0 cap L.toArray w eg hc hH (Array.getElem?_eq_some_iff.1 hb).1 (by simp; omega)).mono ?_
    rintro e w' ⟨rfl, d', q, os, hp, hso, rfl⟩
    have hsz : d'.size = L.length := by have := hp.1; simpa using this
    have hperm : d'.toList.Perm L := by
      have := hp.2.2
      have e1 : d'.extract 0 L.toArray.size = d' := by rw [show L.toArray.size = d'.size by rw [hsz]; rfl]; simp
      have e2 : L.toArray.extract 0 L.toArray.size = L.toArray := by simp
      rw [e1, e2] at this
      exact this
    refine ⟨rfl, d'.toList, hperm, ?_, ?_, ?_⟩
    · rw [List.pairwise_iff_getElem]
      intro i j hi hj hij
      have hsi : i < d'.size := by simpa using hi
      have hsj : j < d'.size := by simpa using hj
      have := hso i j (Nat.zero_le _) hij (by have : L.toArray.size = d'.size := by rw [hsz]; rfl
                                              omega)
      rw [getElem!_pos d' j hsj, getElem!_pos d' i hsi] at this
      unfold ltOf at this
      simpa using of_decide_eq_false this
    · unfold adAt
      have hl' : d'.toList.length = L.length := by simpa using hsz
      rw [hl']
      refine ⟨by rw [adflat_len, hl'], .inr ⟨g, cap, _, rfl, hb0, aheap_sorted _ hb, hn, hmx, by simp [putCells, hs], ?_⟩⟩
      have e3 := atake_putCells cur (flatK adcells 2 d') (by rw [size_flatK, hsz, hs]; exact Nat.mul_le_mul_right _ hn)
      rw [size_flatK, hsz, adflatK_list d' z] at e3
      exact e3
    · exact agrownBy_sorted _

set_option maxHeartbeats 800000 in
set_option maxRecDepth 60000 in
theorem adsorts_nil (w : World) : Calls Tryz.prog 92 #[.slice none 0 0, .func (.func 93) #[] #[]] w fun e w' => e = .returned (.tuple #[]) ∧ Below w.heap.size w w' := by
  have hI : ∀ wx : World, Calls Tryz.prog 190 #[.slice none 0 0, .int .i64 0, .int .i64 0, .func (.func 93) #[] #[]] wx fun e w' => e = .returned (.tuple #[]) ∧ Below wx.heap.size wx w' := fun wx => by
    go_enter Tryz.func190, Tryz.ntmps190
    go_wp2_with fail
    go_loop [8] (fun i => i = .int .i64 1) (fun _ => 0)
    case atStart => rfl
    case round =>
      obtain rfl := hrel
      go_wp2_with fail
      go_end0
      exact ⟨rfl, Below.refl _ _⟩
  have hP : ∀ (l : Int) (wx : World), Calls Tryz.prog 149 #[.slice none 0 0, .int .i64 0, .int .i64 0, .int .i64 l, .func (.func 93) #[] #[]] wx fun e w' => e = .returned (.tuple #[]) ∧ Below wx.heap.size wx w' := fun l wx => by
    have HI := hida hI
    clear hI
    go_enter Tryz.func149, Tryz.ntmps149
    go_wp2_with fail
    go_loopw [1, 2] (fun a b wr => a = .int .i64 0 ∧ b = .int .i64 0 ∧ wr = wx) (fun _ _ _ => 0)
    case atStart => exact ⟨rfl, rfl, rfl⟩
    case round =>
      obtain ⟨rfl, rfl, rfl⟩ := hrel
      go_wp2_with fail
      refine (HI.out _).mono ?_
      rintro e w1 ⟨rfl, H⟩
      have HH := hida H
      clear H
      go_wp2
      refine bodyPost_ret (results_none rfl _ _ _) rfl ?_
      exact ⟨rfl, HH.out⟩
  have HL : Hid (∀ wx, Calls Tryz.prog 147 #[.int .u64 0] wx fun e w' => (∃ l : Int, e = .returned (.int .i64 l)) ∧ wx = w') := fun wx => (Any.bits_Len lenLays (0 : Int) wx (by omega) (by omega)).mono (by rintro e w' ⟨rfl, rfl⟩; exact ⟨⟨_, rfl⟩, rfl⟩)
  have HP := hida hP
  clear hP hI
  go_enter Tryz.func92, Tryz.ntmps92
  go_wp2_with fail
  refine (HL.out _).mono ?_
  rintro e w1 ⟨⟨l, rfl⟩, rfl⟩
  go_wp2_with fail
  refine (HP.out l _).mono ?_
  rintro e w2 ⟨rfl, H⟩
  have HH := hida H
  clear H
  go_wp2
  go_end0
  exact ⟨rfl, HH.out⟩

theorem adsorts_any (B : Nat) (L : List DiV) (w : World) (v : Value) (hl : L.length ≤ 1000000) (h : adAt B w v L) (hv : v = .slice none 0 0 ∨ v ≠ .slice none 0 0) :
    Calls Tryz.prog 92 #[v, .func (.func 93) #[] #[]] w fun e w' => e = .returned (.tuple #[]) ∧ ∃ L', L'.Perm L ∧ L'.Pairwise (fun a b => ¬ adxF b a < 0) ∧ adAt B w' v L' ∧ w.grownBy w' v.ownBlock := by
  rcases hv with rfl | hv
  · have hz : L = [] := by
      rcases h.2 with ⟨_, h1⟩ | ⟨g, cap, cur, e, _⟩
      · exact List.length_eq_zero_iff.1 h1
      · cases e
    subst hz
    refine (adsorts_nil w).mono ?_
    rintro e w' ⟨rfl, b⟩
    exact ⟨rfl, [], List.Perm.refl _, .nil, adAt.nil B w', ⟨b.os, b.tape, b.output, b.size, fun k hk _ => b.block k hk⟩⟩
  · exact adsorts_own B L w v hl h hv

set_option maxHeartbeats 1600000 in
set_option maxRecDepth 60000 in
theorem adsclo_any (x y : DiV) (w : World) : Calls Tryz.prog 96 #[.agg (adcells x).toArray, .agg (adcells y).toArray] w fun e w' => e = .returned (.int .i64 (adsF x y)) ∧ ∃ q os', w' = grow (w.drewN q) os' := by
  have hI : ∀ (wx : World), Calls Tryz.prog 97 #[.int .u64 x.2, .int .u64 y.2] wx fun e w' => e = .returned (.int .i64 (adsF x y)) ∧ w' = wx := lcmp_any _ _
  have HI := hida hI
  have HA : Hid (∀ z : DiV, (adcells z).toArray = #[.int .u32 z.1, .int .u64 z.2]) := fun _ => rfl
  rw [HA.out x, HA.out y]
  clear hI HA
  generalize adsF x y = F at *
  go_enter Tryz.func96, Tryz.ntmps96
  go_wp2_with fail
  refine (HI.out _).mono ?_
  rintro e w1 ⟨rfl, rfl⟩
  go_wp2
  go_ret
  exact ⟨rfl, 0, #[_, _], rfl⟩

end Go.Proofs.YtgkfdakieebnmaaGreat
