/-
  Frames behind one another: what a scan finds of them, and of what is behind them.
  Where girderlaw05.WalTorn stands; Open and says of such a state.
  Where WalPlays stands: a log by its records, of which some are flushed, over a disk without a plan.
-/
import Derived.Test.YthmhigjdjclckaaBase6C
import Derived.Test.YthmhigjdjclckaaWalModelNoC
import Derived.Test.YthmhigjdjclckaaWalSays0C
import Derived.Test.YthmhigjdjclckaaWalP1C
namespace Go.Proofs.Ythmhigjdjclckaa
open Go.RowKit
set_option linter.unusedVariables false

theorem snoc_ind {α : Type} {P : List α → Prop} (h0 : P []) (h1 : ∀ l a, P l → P (l ++ [a])) (l : List α) : P l := by
  have key : ∀ (n : Nat) (l : List α), l.length = n → P l := by
    intro n
    induction n with
    | zero => intro l h; rw [List.length_eq_zero_iff.1 h]; exact h0
    | succ n ih =>
      intro l h
      have hne : l ≠ [] := by intro e; rw [e] at h; simp at h
      rw [← List.dropLast_concat_getLast hne]
      exact h1 _ _ (ih _ (by rw [List.length_dropLast]; omega))
  exact key _ l rfl

/-- The frames of records, from the front on. -/
def allL (rs : List ByteArray) : List UInt8 := rs.foldl (fun acc r => acc ++ frameL (acc.length + 1) r.data.toList) []

theorem allL_snoc (rs : List ByteArray) (r : ByteArray) : allL (rs ++ [r]) = allL rs ++ frameL ((allL rs).length + 1) r.data.toList := by
  simp [allL, List.foldl_append]

theorem fold_pre : ∀ (b : List ByteArray) (acc : List UInt8), ∃ B, b.foldl (fun acc r => acc ++ frameL (acc.length + 1) r.data.toList) acc = acc ++ B
  | [], acc => ⟨[], by simp⟩
  | r :: b, acc => by
    obtain ⟨B, h⟩ := fold_pre b (acc ++ frameL (acc.length + 1) r.data.toList)
    exact ⟨frameL (acc.length + 1) r.data.toList ++ B, by rw [List.foldl_cons, h, List.append_assoc]⟩

theorem allL_append (a b : List ByteArray) : ∃ B, allL (a ++ b) = allL a ++ B := by
  unfold allL
  rw [List.foldl_append]
  exact fold_pre b _

theorem allL_len (rs : List ByteArray) : (allL rs).length + 1 = placeOf rs rs.length := by
  induction rs using snoc_ind with
  | h0 => rfl
  | h1 l a ih =>
    rw [allL_snoc, List.length_append, frameL_length, List.length_append, List.length_singleton]
    show _ = placeOf (l ++ [a]) l.length + (((l ++ [a]).getD l.length ⟨#[]⟩).size + 12)
    rw [placeOf_snoc l a _ (Nat.le_refl _), getD_last, ← ih]
    simp
    omega

/-- A log of such records. -/
theorem recs_of {l : LG} {rs : List ByteArray} (hb : l.bytes = allL rs) (hs : l.starts = (List.range rs.length).map (placeOf rs)) : RecsAt l rs := by
  have key : ∀ rs : List ByteArray, ∃ l : LG, RecsAt l rs ∧ l.bytes = allL rs := by
    intro rs
    induction rs using snoc_ind with
    | h0 => exact ⟨log0 0, RecsAt.nil 0, rfl⟩
    | h1 rs r ih =>
      obtain ⟨l, h, e⟩ := ih
      refine ⟨putG l r, h.snoc r, ?_⟩
      rw [allL_snoc, ← e]
      rfl
  obtain ⟨l', h, e⟩ := key rs
  refine ⟨hs, ?_, ?_⟩
  · rw [hb]; exact allL_len rs
  · intro i hi
    rw [hb, ← e]
    exact h.text i hi

/-- What a scan finds of frames behind which none stands. -/
theorem scan_frames {all : ByteArray} {tail : List UInt8} : ∀ (suf pre : List ByteArray) (n : Nat), all.data.toList = allL (pre ++ suf) ++ tail → (∀ r ∈ suf, 1 ≤ r.size ∧ r.size ≤ 8192) → frameN all (allL (pre ++ suf)).length = 0 → suf.length < n →
    scan all n (allL pre).length = ((List.range suf.length).map (fun i => placeOf (pre ++ suf) (pre.length + i)), (allL (pre ++ suf)).length)
  | [], pre, n + 1, hall, hsz, h0, hn => by
    rw [List.append_nil] at h0 ⊢
    show (if _ then _ else _) = _
    rw [if_pos h0]
    rfl
  | r :: suf, pre, n + 1, hall, hsz, h0, hn => by
    have e : pre ++ r :: suf = (pre ++ [r]) ++ suf := by simp
    rw [e] at hall h0 ⊢
    obtain ⟨B, hB⟩ := allL_append (pre ++ [r]) suf
    have hr := hsz r (List.mem_cons_self)
    have hrl : r.data.toList.length = r.size := by simp
    have hf : frameN all (allL pre).length = r.data.toList.length + 12 :=
      frameN_here (A := allL pre) (r := r.data.toList) (B := B ++ tail) (by rw [hall, hB, allL_snoc]; simp only [List.append_assoc]) (by omega) (by omega)
    have ih := scan_frames suf (pre ++ [r]) n hall (fun x hx => hsz x (List.mem_cons_of_mem _ hx)) h0 (by simp at hn; omega)
    have hlen : (allL pre).length + (r.data.toList.length + 12) = (allL (pre ++ [r])).length := by rw [allL_snoc, List.length_append, frameL_length]
    show (if _ then _ else _) = _
    rw [if_neg (by rw [hf]; omega), hf, hlen, ih]
    have hp : placeOf ((pre ++ [r]) ++ suf) pre.length = (allL pre).length + 1 := by
      rw [allL_len]
      have key : ∀ (a b : List ByteArray) (i : Nat), i ≤ a.length → placeOf (a ++ b) i = placeOf a i := by
        intro a b i
        induction i with
        | zero => intro _; rfl
        | succ i ih =>
          intro h
          show placeOf (a ++ b) i + (((a ++ b).getD i ⟨#[]⟩).size + 12) = placeOf a i + ((a.getD i ⟨#[]⟩).size + 12)
          rw [ih (by omega), List.getD_eq_getElem?_getD, List.getD_eq_getElem?_getD, List.getElem?_append_left (by omega)]
      rw [key (pre ++ [r]) suf _ (by simp), key pre [r] _ (Nat.le_refl _)]
    refine Prod.ext ?_ rfl
    simp only [List.length_cons]
    rw [List.range_succ_eq_map, List.map_cons, List.map_map]
    congr 1
    · exact hp.symm
    · apply List.map_congr_left
      intro i _
      simp only [Function.comp, List.length_append, List.length_singleton]
      congr 1
      omega

/-- A disk whose log has frames, and behind them none: what is opened. -/
theorem open_recs (p : Nat) (d : DG) (rs : List ByteArray) (tail : List UInt8) (hd : d.log = allL rs ++ tail) (hsz : ∀ r ∈ rs, 1 ≤ r.size ∧ r.size ≤ 8192) (h0 : frameN ⟨d.log.toArray⟩ (allL rs).length = 0) :
    RecsAt (openL p d) rs ∧ (openL p d).bytes = allL rs ∧ (openL p d).flushed = (allL rs).length ∧ (scan ⟨d.log.toArray⟩ (d.log.length + 1) 0).2 = (allL rs).length := by
  have hl := allL_len rs
  have hm := placeOf_mono rs (Nat.zero_le rs.length)
  have hm0 : placeOf rs 0 = 1 := rfl
  have hs := scan_frames (all := ⟨d.log.toArray⟩) (tail := tail) rs [] (d.log.length + 1) (by simpa using hd) hsz (by simpa using h0) (by rw [hd, List.length_append]; omega)
  have hz : (allL []).length = 0 := rfl
  rw [hz, List.nil_append] at hs
  have hb : (openL p d).bytes = allL rs := by
    show d.log.take (scan _ _ _).2 = _
    rw [hs]
    show d.log.take (allL rs).length = _
    rw [hd, List.take_left]
  refine ⟨recs_of hb ?_, hb, ?_, ?_⟩
  · show (scan _ _ _).1 = _
    rw [hs]
    apply List.map_congr_left
    intro i _
    simp
  · show (scan _ _ _).2 = _
    rw [hs]
  · rw [hs]

/-- A frame that is found stands there. -/
theorem frameN_stands {all : ByteArray} {A L : List UInt8} (hall : all.data.toList = A ++ L) (h : frameN all A.length ≠ 0) : ∃ r B, L = frameL (A.length + 1) r ++ B ∧ 1 ≤ r.length ∧ r.length ≤ 8192 ∧ le (L.take 4) = r.length ∧ r = (L.drop 8).take r.length := by
  have hp : part all A.length 4 = L.take 4 := by unfold part; rw [hall, List.drop_left]
  unfold frameN at h
  rw [hp] at h
  by_cases hc : A.length + 4 ≤ all.size ∧ le (L.take 4) ≤ 8192 ∧ le (L.take 4) + 12 ≤ all.size - A.length ∧ 1 ≤ le (L.take 4) ∧
    frameB (A.length + 1) ((all.extract A.length (A.length + (le (L.take 4) + 12))).extract 8 (le (L.take 4) + 8)) = all.extract A.length (A.length + (le (L.take 4) + 12))
  · obtain ⟨_, c2, c3, c4, c5⟩ := hc
    generalize le (L.take 4) = n at *
    have hsz : all.size = A.length + L.length := by
      have : all.size = all.data.toList.length := by simp
      rw [this, hall, List.length_append]
    have e1 : (all.extract A.length (A.length + (n + 12))).data.toList = L.take (n + 12) := by
      rw [ext_list, hall, List.drop_left]
      congr 1
      omega
    have e2 : ((all.extract A.length (A.length + (n + 12))).extract 8 (n + 8)).data.toList = (L.drop 8).take n := by
      rw [ext_list, e1, List.drop_take, List.take_take]
      congr 1
      omega
    have c5' : (frameB (A.length + 1) ((all.extract A.length (A.length + (n + 12))).extract 8 (n + 8))).data.toList = (all.extract A.length (A.length + (n + 12))).data.toList := congrArg (fun x : ByteArray => x.data.toList) c5
    rw [e1] at c5'
    have c6 : frameL (A.length + 1) ((L.drop 8).take n) = L.take (n + 12) := by
      rw [← c5', ← e2]
      unfold frameB
      simp
    have hrl : ((L.drop 8).take n).length = n := by rw [List.length_take, List.length_drop]; omega
    refine ⟨(L.drop 8).take n, L.drop (n + 12), ?_, by omega, by omega, hrl.symm, by rw [hrl]⟩
    rw [c6, List.take_append_drop]
  · rw [if_neg hc] at h
    exact absurd rfl h

theorem torn_end1 {all : ByteArray} {A : List UInt8} {L : ByteArray} (hall : all.data.toList = A ++ L.data.toList) (h : L.size < 12) : frameN all A.length = 0 := by
  by_cases hf : frameN all A.length = 0
  · exact hf
  · obtain ⟨r, B, hL, h1, h2, h3, h4⟩ := frameN_stands hall hf
    have := congrArg List.length hL
    rw [List.length_append, frameL_length] at this
    simp at this
    omega

theorem torn_end2 {all : ByteArray} {A : List UInt8} {L : ByteArray} (hall : all.data.toList = A ++ L.data.toList) (n : Nat) (hn : le (L.extract 0 4).data.toList = n) (h : n < 1 ∨ 8192 < n ∨ L.size < n + 12) : frameN all A.length = 0 := by
  by_cases hf : frameN all A.length = 0
  · exact hf
  · obtain ⟨r, B, hL, h1, h2, h3, h4⟩ := frameN_stands hall hf
    have e : (L.extract 0 4).data.toList = L.data.toList.take 4 := by rw [ext_list]; simp
    rw [e, h3] at hn
    have := congrArg List.length hL
    rw [List.length_append, frameL_length] at this
    simp at this
    omega

theorem torn_end3 {all : ByteArray} {A : List UInt8} {L : ByteArray} (hall : all.data.toList = A ++ L.data.toList) (n : Nat) (hn : le (L.extract 0 4).data.toList = n) (h : frameB (A.length + 1) (L.extract 8 (8 + n)) ≠ L.extract 0 (n + 12)) : frameN all A.length = 0 := by
  by_cases hf : frameN all A.length = 0
  · exact hf
  · obtain ⟨r, B, hL, h1, h2, h3, h4⟩ := frameN_stands hall hf
    have e : (L.extract 0 4).data.toList = L.data.toList.take 4 := by rw [ext_list]; simp
    rw [e, h3] at hn
    refine absurd (bytes_ext ?_) h
    rw [ext_list]
    unfold frameB
    have e8 : (L.extract 8 (8 + n)).data.toList = r := by rw [ext_list, h4, ← hn]; congr 1; omega
    rw [e8]
    show frameL (A.length + 1) r = _
    rw [hL, List.drop_zero, Nat.sub_zero, ← hn, ← frameL_length (A.length + 1) r, List.take_left]

theorem torn_next {A : List UInt8} {L : ByteArray} (n : Nat) (hl : n + 12 ≤ L.size) (h : frameB (A.length + 1) (L.extract 8 (8 + n)) = L.extract 0 (n + 12)) : L.data.toList = frameL (A.length + 1) (L.extract 8 (8 + n)).data.toList ++ (L.extract (n + 12) L.size).data.toList := by
  have h' : (frameB (A.length + 1) (L.extract 8 (8 + n))).data.toList = (L.extract 0 (n + 12)).data.toList := by rw [h]
  have e : (frameB (A.length + 1) (L.extract 8 (8 + n))).data.toList = frameL (A.length + 1) (L.extract 8 (8 + n)).data.toList := by unfold frameB; simp
  rw [e] at h'
  rw [h', ext_list, ext_list, List.drop_zero, Nat.sub_zero, List.take_of_length_le (l := List.drop _ _) (by simp), List.take_append_drop]

end Go.Proofs.Ythmhigjdjclckaa

namespace Go.Proofs.Ythmhigjdjclckaa
open Go.RowKit
set_option linter.unusedVariables false

/-- A disk and a model of the call's own. -/
structure TornIn (w W : World) (p mb : Nat) (ta : Option Addr) (tc sure : Nat) (rs : List ByteArray) (D : Nat → Prop) (d : DG) : Prop where
  disk : IsDisk W p D d
  new : ∀ k, D k → w.heap.size ≤ k
  bel : Below w.heap.size w W
  mod : Blk W mb #[.slice ta rs.length tc, .int .i64 sure, .int .i64 0, .int .u64 0] 34
  mnew : w.heap.size ≤ mb
  moff : ¬ D mb
  txt : TextsAt W ta rs
  toff : ∀ x, ta = some x → ¬ D x.block ∧ x.block ≠ mb ∧ x.block < W.heap.size
  big : ∀ r ∈ rs, 1 ≤ r.size ∧ r.size ≤ 8192

theorem TextsAt.same {w w' : World} {a : Option Addr} {rs : List ByteArray} (h : TextsAt w a rs) (k : ∀ x, a = some x → x.block < w.heap.size → w'.heap[x.block]? = w.heap[x.block]?) (hz : w.heap.size ≤ w'.heap.size) : TextsAt w' a rs := by
  rcases h with h | ⟨g, o, e, hg, hc⟩
  · exact .inl h
  · exact .inr ⟨g, o, e, by omega, fun i hi => (World.cell?_of_block (w := w) (a := ⟨g, o + i, none⟩) (k ⟨g, o, none⟩ e hg)).trans (hc i hi)⟩

section
variable {w W : World} {p mb : Nat} {ta : Option Addr} {tc sure : Nat} {rs : List ByteArray} {D : Nat → Prop} {d : DG}

theorem TornIn.below (h : TornIn w W p mb ta tc sure rs D d) {W' : World} (b : Below W.heap.size W W') : TornIn w W' p mb ta tc sure rs D d :=
  ⟨h.disk.below b, h.new, below_chain h.bel b, h.mod.same (b.block _ h.mod.lt), h.mnew, h.moff, h.txt.below b, fun x e => ⟨(h.toff x e).1, (h.toff x e).2.1, Nat.lt_of_lt_of_le (h.toff x e).2.2 b.size⟩, h.big⟩

theorem TornIn.moves (h : TornIn w W p mb ta tc sure rs D d) {W' : World} {D' : Nat → Prop} {d' : DG} (hd : IsDisk W' p D' d') (hm : Moves D D' W W') : TornIn w W' p mb ta tc sure rs D' d' := by
  have hz := h.bel.size
  refine ⟨hd, fun k x => (hm.2 k x).elim (h.new k) (fun y => Nat.le_trans hz y), below_kept h.bel hm.1 h.new, h.mod.same (hm.off h.mod.lt h.moff).1, h.mnew, (hm.off h.mod.lt h.moff).2, h.txt.same (fun x e hx => (hm.off hx (h.toff x e).1).1) hm.1.size, fun x e => ?_, h.big⟩
  have := h.toff x e
  exact ⟨(hm.off this.2.2 this.1).2, this.2.1, Nat.lt_of_lt_of_le this.2.2 hm.1.size⟩

theorem TornIn.put (h : TornIn w W p mb ta tc sure rs D d) {W1 W2 : World} {a' : Option Addr} {c' : Nat} {r : ByteArray} (b : Below W.heap.size W W1) (hT : TextsAt W1 a' (rs ++ [r])) (hN : NewAt W.heap.size a') (hk : Kept (fun k => k = mb) W1 W2)
    (hm : Blk W2 mb #[.slice a' (rs.length + 1) c', .int .i64 sure, .int .i64 0, .int .u64 0] 34) (h1 : 1 ≤ r.size) (h2 : r.size ≤ 8192) : TornIn w W2 p mb a' c' sure (rs ++ [r]) D d := by
  have h' := h.below b
  have hmb := h.mod.lt
  have hne : ∀ x, a' = some x → x.block ≠ mb := fun x e => by have := hN x e; omega
  have hlt : ∀ x, a' = some x → x.block < W1.heap.size := fun x e => by
    rcases hT with h0 | ⟨g, o, e', hg, _⟩
    · simp at h0
    · rw [e'] at e; obtain rfl := Option.some.inj e; exact hg
  refine ⟨h'.disk.same (fun k hk' => hk.block k (h'.disk.lt hk') fun e => h.moff (e ▸ hk')) hk.size, h.new, below_kept h'.bel hk (fun i e => by have := h.mnew; omega), ?_, h.mnew, h.moff, hT.same (fun x e hx => hk.block _ hx (hne x e)) hk.size, fun x e => ⟨fun y => ?_, hne x e, Nat.lt_of_lt_of_le (hlt x e) hk.size⟩, ?_⟩
  · rw [List.length_append, List.length_singleton]; exact hm
  · have := hN x e; have := h.disk.lt y; omega
  · intro x hx
    rcases List.mem_append.1 hx with hx | hx
    · exact h.big x hx
    · rw [List.mem_singleton] at hx; rw [hx]; exact ⟨h1, h2⟩

theorem TornIn.sures (h : TornIn w W p mb ta tc sure rs D d) (n : Nat) : TornIn w (W.setCell ⟨mb, 1, none⟩ (.int .i64 (n : Int))) p mb ta tc n rs D d := by
  have hk : Kept (fun k => k = mb) W (W.setCell ⟨mb, 1, none⟩ (.int .i64 (n : Int))) := Kept.setCell (fun k => k = mb) _ _ _ _ rfl
  refine ⟨h.disk.same (fun k hk' => hk.block k (h.disk.lt hk') fun e => h.moff (e ▸ hk')) hk.size, h.new, below_kept h.bel hk (fun i e => by have := h.mnew; omega), h.mod.set 1 _, h.mnew, h.moff, h.txt.same (fun x e hx => hk.block _ hx (h.toff x e).2.1) hk.size, fun x e => ⟨(h.toff x e).1, (h.toff x e).2.1, Nat.lt_of_lt_of_le (h.toff x e).2.2 hk.size⟩, h.big⟩

end

theorem below_grown {n : Nat} {u v w : World} {row : Option Nat} (b : Below n u v) (hn : n ≤ v.heap.size) (hr : ∀ k, row = some k → n ≤ k) (g : v.grownBy w row) : Below n u w :=
  ⟨g.os.trans b.os, g.tape.trans b.tape, g.output.trans b.output, Nat.le_trans b.size g.size, fun k hk => (g.block k (by omega) fun e => by have := hr k e.symm; omega).trans (b.block k hk)⟩

/-- What is opened of a disk whose log has frames, and behind them what is none. -/
structure Opened (w w' : World) (p q : Nat) (rs : List ByteArray) (D D' S' : Nat → Prop) (d d' : DG) (l : LG) : Prop where
  log : IsLog w' q S' l
  recs : RecsAt l rs
  dp : l.dp = p
  fl : l.flushed = (allL rs).length
  kept : l.kept = 0
  bytes : l.bytes.length = (allL rs).length
  disk : IsDisk w' p D' d'
  all : d'.log = allL rs
  dead : d'.dead = false
  plan : d'.plan = []
  mark : d'.mark = d.mark
  calls : d'.calls ≤ d.calls + 2
  new : ∀ k, S' k → w.heap.size ≤ k
  off : ∀ k, S' k → ¬ D' k
  mv : Moves D D' w w'

theorem open_all {w : World} {p : Nat} {D : Nat → Prop} {d : DG} (h : IsDisk w p D d) (hd : d.dead = false) (hp : d.plan = []) (hc : d.calls ≤ 100000) (hl : d.log.length ≤ 4194304) (rs : List ByteArray) (tail : List UInt8) (hlog : d.log = allL rs ++ tail)
    (hsz : ∀ r ∈ rs, 1 ≤ r.size ∧ r.size ≤ 8192) (h0 : frameN ⟨d.log.toArray⟩ (allL rs).length = 0) :
    Calls Try.prog 6 #[.pointer (some ⟨p, 0, none⟩)] w fun e w' => ∃ q, e = .returned (.tuple #[.pointer (some ⟨q, 0, none⟩), .int .i64 (tail.length : Int), .int .i64 0]) ∧
      ∃ D' S' d' l, Opened w w' p q rs D D' S' d d' l := by
  obtain ⟨o1, o2, o3, o4⟩ := open_recs p d rs tail hlog hsz h0
  have hlen : d.log.length = (allL rs).length + tail.length := by rw [hlog, List.length_append]
  by_cases ht : tail = []
  · subst ht
    refine (open_out h hd hl (by rw [o4, hlen]; rfl)).mono ?_
    rintro e w' ⟨q, rfl, ⟨S', h1, h2⟩, b⟩
    refine ⟨q, rfl, D, S', d, _, h1, o1, rfl, o3, rfl, by rw [o2], h.below b, by rw [hlog, List.append_nil], hd, hp, rfl, by omega, h2, fun k x y => ?_, Moves.of_kept (Kept.of_below b)⟩
    have := h2 k x
    have := h.lt y
    omega
  · have htl : 0 < tail.length := List.length_pos_iff.2 ht
    refine (open_torn h hd hp hc hl _ o4 (by omega)).mono ?_
    rintro e w' ⟨q, rfl, S', D', h1, h2, h3, h4, h5⟩
    refine ⟨q, ?_, D', S', _, _, h1, o1, rfl, o3, rfl, by rw [o2], h2, ?_, hd, hp, rfl, Nat.le_refl _, h3, h4, h5⟩
    · rw [hlen, Nat.add_sub_cancel_left]
    · show d.log.take _ = _
      rw [hlog, List.take_left]

theorem says_all (w : World) (q : Nat) (S D : Nat → Prop) (l : LG) (d : DG) (rs : List ByteArray) (ta : Option Addr) (tc : Nat)
    (h : IsLog w q S l) (hR : RecsAt l rs) (hd : IsDisk w l.dp D d) (hdead : d.dead = false) (hT : TextsAt w ta rs) (hb : l.bytes.length = (allL rs).length) (hl : (allL rs).length ≤ 4194304) (hfl : l.flushed = (allL rs).length) (hk : l.kept = 0) (hm : d.mark = 0) :
    Calls Try.prog 9 #[.pointer (some ⟨q, 0, none⟩), .agg #[.slice ta rs.length tc, .int .i64 (rs.length : Nat), .int .i64 0, .int .u64 0], .agg #[.int .i64 0, .int .i64 0, .string ⟨#[]⟩, .int .u64 0, .int .i64 0, .int .u64 0, .int .i64 0, .int .i64 0, .int .i64 0]] w fun e w' => e = .returned (.bool true) ∧ Below w.heap.size w w' := by
  have hal := allL_len rs
  have hm0 := placeOf_mono rs (Nat.zero_le rs.length)
  have hm1 : placeOf rs 0 = 1 := rfl
  by_cases h0 : rs = []
  · subst h0
    exact says_none w q S D l d ta tc 0 0 0 ⟨#[]⟩ 0 0 0 0 0 0 h hR hd hdead hfl hk
  · obtain ⟨j, hj⟩ : ∃ j, j + 1 = rs.length := ⟨rs.length - 1, by have := List.length_pos_iff.2 h0; omega⟩
    refine says_more w q S D l d rs ta tc rs.length 0 0 0 0 ⟨#[]⟩ 0 0 0 0 0 0 h hR hd hdead hT (by unfold Sized; omega) (by omega) (by omega) (by omega) (Nat.le_refl _) hk (.inr ⟨rfl, fun i hi => ?_⟩) j hj
    rw [hm, hR.at (by rw [← hR.len]; exact hi)]
    have := placeOf_pos rs i
    omega

end Go.Proofs.Ythmhigjdjclckaa

namespace Go.Proofs.Ythmhigjdjclckaa
open Go.RowKit
set_option linter.unusedVariables false

theorem placeOf_take (rs : List ByteArray) (s : Nat) : ∀ i, i ≤ s → i ≤ rs.length → placeOf (rs.take s) i = placeOf rs i
  | 0, _, _ => rfl
  | i + 1, h, h' => by
    have e : (rs.take s).getD i ⟨#[]⟩ = rs.getD i ⟨#[]⟩ := by
      rw [List.getD_eq_getElem?_getD, List.getD_eq_getElem?_getD, List.getElem?_take, if_pos (by omega)]
    show placeOf (rs.take s) i + _ + 12 = placeOf rs i + _ + 12
    rw [placeOf_take rs s i (by omega) (by omega), e]

theorem allL_take (rs : List ByteArray) (s : Nat) (h : s ≤ rs.length) : (allL (rs.take s)).length + 1 = placeOf rs s := by
  rw [allL_len]
  have : (rs.take s).length = s := by simp; omega
  rw [this]
  exact placeOf_take rs s s (Nat.le_refl _) h

theorem allL_split (rs : List ByteArray) (s : Nat) : allL rs = allL (rs.take s) ++ (allL rs).drop (allL (rs.take s)).length := by
  obtain ⟨B, hB⟩ := allL_append (rs.take s) (rs.drop s)
  rw [List.take_append_drop] at hB
  rw [hB, List.drop_left]

/-- A log and its disk. -/
structure WpL (W : World) (p q : Nat) (S D : Nat → Prop) (l : LG) (d : DG) (rs : List ByteArray) (sure kept mark j : Nat) : Prop where
  log : IsLog W q S l
  disk : IsDisk W p D d
  dp : l.dp = p
  off : ∀ k, S k → ¬ D k
  bytes : l.bytes = allL rs
  recs : RecsAt l rs
  half : l.half = false
  keeps : l.kept = kept
  fits : l.bytes.length + kept ≤ 4194304
  sz : ∀ r ∈ rs, 1 ≤ r.size ∧ r.size ≤ 8192
  cnt : rs.length ≤ j
  su : sure ≤ rs.length
  fl : l.flushed = (allL (rs.take sure)).length
  dlog : d.log = allL (rs.take sure)
  dead : d.dead = false
  plan : d.plan = []
  calls : d.calls ≤ 4 * j
  ok : d.ok
  loose : d.loose = []
  sl : d.sl = d.log.length
  nS : d.nS ≤ j
  mrk : d.mark = mark
  sm : d.sm = mark
  mkp : mark = 0 ∨ ∃ i, i < sure ∧ placeOf rs i = mark
  mz : mark < 18446744073709551616

section
variable {W W' : World} {p q : Nat} {S D : Nat → Prop} {l : LG} {d : DG} {rs : List ByteArray} {sure kept mark j : Nat}

theorem WpL.below (h : WpL W p q S D l d rs sure kept mark j) (b : Below W.heap.size W W') : WpL W' p q S D l d rs sure kept mark j :=
  ⟨h.log.below b, h.disk.below b, h.dp, h.off, h.bytes, h.recs, h.half, h.keeps, h.fits, h.sz, h.cnt, h.su, h.fl, h.dlog, h.dead, h.plan, h.calls, h.ok, h.loose, h.sl, h.nS, h.mrk, h.sm, h.mkp, h.mz⟩

theorem WpL.later (h : WpL W p q S D l d rs sure kept mark j) {i : Nat} (k : j ≤ i) : WpL W p q S D l d rs sure kept mark i :=
  ⟨h.log, h.disk, h.dp, h.off, h.bytes, h.recs, h.half, h.keeps, h.fits, h.sz, Nat.le_trans h.cnt k, h.su, h.fl, h.dlog, h.dead, h.plan, Nat.le_trans h.calls (by omega), h.ok, h.loose, h.sl, Nat.le_trans h.nS k, h.mrk, h.sm, h.mkp, h.mz⟩

theorem WpL.long (h : WpL W p q S D l d rs sure kept mark j) : l.bytes.length + 1 = placeOf rs rs.length := h.recs.long
theorem WpL.blen (h : WpL W p q S D l d rs sure kept mark j) : l.bytes.length ≤ 4194304 := by have := h.fits; omega
theorem WpL.klen (h : WpL W p q S D l d rs sure kept mark j) : l.kept ≤ 4194304 := by have := h.fits; have := h.keeps; omega
theorem WpL.sized (h : WpL W p q S D l d rs sure kept mark j) : Sized rs := by have := h.long; have := h.blen; unfold Sized; omega
theorem WpL.flu (h : WpL W p q S D l d rs sure kept mark j) : l.flushed + 1 = placeOf rs sure := by rw [h.fl]; exact allL_take rs sure h.su
theorem WpL.flle (h : WpL W p q S D l d rs sure kept mark j) : l.flushed ≤ l.bytes.length := by have := h.flu; have := h.long; have := placeOf_mono rs h.su; omega
theorem WpL.slen (h : WpL W p q S D l d rs sure kept mark j) : l.starts.length = rs.length := h.recs.len
theorem WpL.mi (h : WpL W p q S D l d rs sure kept mark j) : (mark = d.mark ∧ ∃ i, i < l.starts.length ∧ l.starts.getD i 0 = d.mark) ∨ (mark = 0 ∧ ∀ i, i < l.starts.length → l.starts.getD i 0 ≠ d.mark) := by
  rcases h.mkp with e | ⟨i, hi, e⟩
  · refine .inr ⟨e, fun i hi => ?_⟩
    rw [h.slen] at hi
    rw [h.recs.at hi, h.mrk, e]
    have := placeOf_pos rs i
    omega
  · have hi' : i < rs.length := by have := h.su; omega
    exact .inl ⟨h.mrk.symm, i, by rw [h.slen]; exact hi', by rw [h.recs.at hi', h.mrk]; exact e⟩

/-- A record more. -/
theorem WpL.push (h : WpL W p q S D l d rs sure kept mark j) {S' : Nat → Prop} {s : ByteArray} {k' : Nat} (hl : IsLog W' q S' { putG l s with kept := k' }) (hm : Moves S S' W W') (h1 : 1 ≤ s.size) (h2 : s.size ≤ 8192) (hf : l.bytes.length + (s.size + 12) + k' ≤ 4194304) :
    WpL W' p q S' D { putG l s with kept := k' } d (rs ++ [s]) sure k' mark (j + 1) := by
  have hd := h.disk.beside hm (fun k x y => h.off k y x)
  have hlen : (putG l s).bytes.length = l.bytes.length + (s.size + 12) := by
    have a := (h.recs.snoc s).long
    have b := h.recs.long
    have c : placeOf (rs ++ [s]) (rs ++ [s]).length = placeOf rs rs.length + s.size + 12 := by
      rw [List.length_append]
      show placeOf (rs ++ [s]) rs.length + ((rs ++ [s]).getD rs.length ⟨#[]⟩).size + 12 = _
      rw [placeOf_snoc rs s rs.length (Nat.le_refl _), getD_last]
    omega
  have ht : (rs ++ [s]).take sure = rs.take sure := by rw [List.take_append_of_le_length h.su]
  refine ⟨hl, hd.1, h.dp, fun k x y => hd.2 k y x, ?_, ?_, h.half, rfl, ?_, ?_, ?_, ?_, ?_, ?_, h.dead, h.plan, Nat.le_trans h.calls (by omega), h.ok, h.loose, h.sl, Nat.le_trans h.nS (by omega), h.mrk, h.sm, ?_, h.mz⟩
  · show l.bytes ++ frameL (l.bytes.length + 1) s.data.toList = _
    rw [allL_snoc, h.bytes]
  · exact ⟨(h.recs.snoc s).starts, (h.recs.snoc s).long, (h.recs.snoc s).text⟩
  · show (putG l s).bytes.length + k' ≤ _
    omega
  · intro r hr
    rcases List.mem_append.1 hr with x | x
    · exact h.sz r x
    · rw [List.mem_singleton.1 x]; exact ⟨h1, h2⟩
  · rw [List.length_append]; have := h.cnt; simp; omega
  · rw [List.length_append]; have := h.su; omega
  · show l.flushed = _
    rw [ht]; exact h.fl
  · rw [ht]; exact h.dlog
  · rcases h.mkp with e | ⟨i, hi, e⟩
    · exact .inl e
    · exact .inr ⟨i, hi, by rw [placeOf_snoc rs s i (by have := h.su; omega)]; exact e⟩

/-- Another number is kept. -/
theorem WpL.keep (h : WpL W p q S D l d rs sure kept mark j) {k' : Nat} (hl : IsLog W' q S { l with kept := k' }) (hm : Moves S S W W') (hf : l.bytes.length + k' ≤ 4194304) :
    WpL W' p q S D { l with kept := k' } d rs sure k' mark (j + 1) := by
  have hd := h.disk.beside hm (fun k x y => h.off k y x)
  exact ⟨hl, hd.1, h.dp, h.off, h.bytes, ⟨h.recs.starts, h.recs.long, h.recs.text⟩, h.half, rfl, hf, h.sz, Nat.le_trans h.cnt (by omega), h.su, h.fl, h.dlog, h.dead, h.plan, Nat.le_trans h.calls (by omega), h.ok, h.loose, h.sl, Nat.le_trans h.nS (by omega), h.mrk, h.sm, h.mkp, h.mz⟩

/-- All is flushed. -/
theorem WpL.flushed (h : WpL W p q S D l d rs sure kept mark j) {D' : Nat → Prop} (hl : IsLog W' q S { l with flushed := l.bytes.length }) (hd : IsDisk W' p D' (flushD l d)) (ho : ∀ k, S k → ¬ D' k) :
    WpL W' p q S D' { l with flushed := l.bytes.length } (flushD l d) rs rs.length kept mark (j + 1) := by
  have hlog : (flushD l d).log = allL rs := by
    show d.log ++ (⟨(l.bytes.drop l.flushed).toArray⟩ : ByteArray).data.toList = _
    rw [h.dlog, h.fl, h.bytes]
    exact (allL_split rs sure).symm
  have ht : rs.take rs.length = rs := List.take_length
  refine ⟨hl, hd, h.dp, ho, h.bytes, ⟨h.recs.starts, h.recs.long, h.recs.text⟩, h.half, h.keeps, h.fits, h.sz, Nat.le_trans h.cnt (by omega), Nat.le_refl _, ?_, ?_, h.dead, h.plan, ?_, ?_, h.loose, rfl, Nat.le_trans h.nS (by omega), h.mrk, h.sm, ?_, h.mz⟩
  · show l.bytes.length = _
    rw [ht, h.bytes]
  · rw [ht]; exact hlog
  · show d.calls + 1 + 1 ≤ _
    have := h.calls; omega
  · refine ⟨h.ok.loose, h.ok.sure, h.ok.n, ?_, Nat.le_refl _⟩
    rw [hlog, ← h.bytes]; exact h.blen
  · rcases h.mkp with e | ⟨i, hi, e⟩
    · exact .inl e
    · exact .inr ⟨i, by have := h.su; omega, e⟩

end

end Go.Proofs.Ythmhigjdjclckaa
