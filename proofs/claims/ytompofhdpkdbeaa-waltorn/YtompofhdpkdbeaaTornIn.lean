/-
  Where girderlaw05.WalTorn stands; Open and says of such a state.
-/
import Derived.Test.YtompofhdpkdbeaaTornScan
import Derived.Test.YtompofhdpkdbeaaWalModelNo
import Derived.Test.YtompofhdpkdbeaaWalSays0
namespace Go.Proofs.Ytompofhdpkdbeaa
open Go.RowKit
set_option linter.unusedVariables false

/-- A disk and a model of the call's own. -/
structure TornIn (w W : World) (p mb : Nat) (ta : Option Addr) (tc sure : Nat) (rs : List ByteArray) (D : Nat → Prop) (d : DG) : Prop where
  disk : IsDisk W p D d
  new : ∀ k, D k → w.heap.size ≤ k
  bel : Below w.heap.size w W
  mod : Blk W mb #[.slice ta rs.length tc, .int .i64 sure, .int .i64 0, .int .u64 0] 34
  mnew : w.heap.size ≤ mb
  moff : ¬ D mb
  txt : TextsAt W ta rs
  toff : ∀ x, ta = some x → ¬ D x.block ∧ x.block ≠ mb ∧ x.block < W.heap.size
  big : ∀ r ∈ rs, 1 ≤ r.size ∧ r.size ≤ 8192

theorem TextsAt.same {w w' : World} {a : Option Addr} {rs : List ByteArray} (h : TextsAt w a rs) (k : ∀ x, a = some x → x.block < w.heap.size → w'.heap[x.block]? = w.heap[x.block]?) (hz : w.heap.size ≤ w'.heap.size) : TextsAt w' a rs := by
  rcases h with h | ⟨g, o, e, hg, hc⟩
  · exact .inl h
  · exact .inr ⟨g, o, e, by omega, fun i hi => (World.cell?_of_block (w := w) (a := ⟨g, o + i, none⟩) (k ⟨g, o, none⟩ e hg)).trans (hc i hi)⟩

section
variable {w W : World} {p mb : Nat} {ta : Option Addr} {tc sure : Nat} {rs : List ByteArray} {D : Nat → Prop} {d : DG}

theorem TornIn.below (h : TornIn w W p mb ta tc sure rs D d) {W' : World} (b : Below W.heap.size W W') : TornIn w W' p mb ta tc sure rs D d :=
  ⟨h.disk.below b, h.new, below_chain h.bel b, h.mod.same (b.block _ h.mod.lt), h.mnew, h.moff, h.txt.below b, fun x e => ⟨(h.toff x e).1, (h.toff x e).2.1, Nat.lt_of_lt_of_le (h.toff x e).2.2 b.size⟩, h.big⟩

theorem TornIn.moves (h : TornIn w W p mb ta tc sure rs D d) {W' : World} {D' : Nat → Prop} {d' : DG} (hd : IsDisk W' p D' d') (hm : Moves D D' W W') : TornIn w W' p mb ta tc sure rs D' d' := by
  have hz := h.bel.size
  refine ⟨hd, fun k x => (hm.2 k x).elim (h.new k) (fun y => Nat.le_trans hz y), below_kept h.bel hm.1 h.new, h.mod.same (hm.off h.mod.lt h.moff).1, h.mnew, (hm.off h.mod.lt h.moff).2, h.txt.same (fun x e hx => (hm.off hx (h.toff x e).1).1) hm.1.size, fun x e => ?_, h.big⟩
  have := h.toff x e
  exact ⟨(hm.off this.2.2 this.1).2, this.2.1, Nat.lt_of_lt_of_le this.2.2 hm.1.size⟩

theorem TornIn.put (h : TornIn w W p mb ta tc sure rs D d) {W1 W2 : World} {a' : Option Addr} {c' : Nat} {r : ByteArray} (b : Below W.heap.size W W1) (hT : TextsAt W1 a' (rs ++ [r])) (hN : NewAt W.heap.size a') (hk : Kept (fun k => k = mb) W1 W2)
    (hm : Blk W2 mb #[.slice a' (rs.length + 1) c', .int .i64 sure, .int .i64 0, .int .u64 0] 34) (h1 : 1 ≤ r.size) (h2 : r.size ≤ 8192) : TornIn w W2 p mb a' c' sure (rs ++ [r]) D d := by
  have h' := h.below b
  have hmb := h.mod.lt
  have hne : ∀ x, a' = some x → x.block ≠ mb := fun x e => by have := hN x e; omega
  have hlt : ∀ x, a' = some x → x.block < W1.heap.size := fun x e => by
    rcases hT with h0 | ⟨g, o, e', hg, _⟩
    · simp at h0
    · rw [e'] at e; obtain rfl := Option.some.inj e; exact hg
  refine ⟨h'.disk.same (fun k hk' => hk.block k (h'.disk.lt hk') fun e => h.moff (e ▸ hk')) hk.size, h.new, below_kept h'.bel hk (fun i e => by have := h.mnew; omega), ?_, h.mnew, h.moff, hT.same (fun x e hx => hk.block _ hx (hne x e)) hk.size, fun x e => ⟨fun y => ?_, hne x e, Nat.lt_of_lt_of_le (hlt x e) hk.size⟩, ?_⟩
  · rw [List.length_append, List.length_singleton]; exact hm
  · have := hN x e; have := h.disk.lt y; omega
  · intro x hx
    rcases List.mem_append.1 hx with hx | hx
    · exact h.big x hx
    · rw [List.mem_singleton] at hx; rw [hx]; exact ⟨h1, h2⟩

theorem TornIn.sures (h : TornIn w W p mb ta tc sure rs D d) (n : Nat) : TornIn w (W.setCell ⟨mb, 1, none⟩ (.int .i64 (n : Int))) p mb ta tc n rs D d := by
  have hk : Kept (fun k => k = mb) W (W.setCell ⟨mb, 1, none⟩ (.int .i64 (n : Int))) := Kept.setCell (fun k => k = mb) _ _ _ _ rfl
  refine ⟨h.disk.same (fun k hk' => hk.block k (h.disk.lt hk') fun e => h.moff (e ▸ hk')) hk.size, h.new, below_kept h.bel hk (fun i e => by have := h.mnew; omega), h.mod.set 1 _, h.mnew, h.moff, h.txt.same (fun x e hx => hk.block _ hx (h.toff x e).2.1) hk.size, fun x e => ⟨(h.toff x e).1, (h.toff x e).2.1, Nat.lt_of_lt_of_le (h.toff x e).2.2 hk.size⟩, h.big⟩

end

theorem below_grown {n : Nat} {u v w : World} {row : Option Nat} (b : Below n u v) (hn : n ≤ v.heap.size) (hr : ∀ k, row = some k → n ≤ k) (g : v.grownBy w row) : Below n u w :=
  ⟨g.os.trans b.os, g.tape.trans b.tape, g.output.trans b.output, Nat.le_trans b.size g.size, fun k hk => (g.block k (by omega) fun e => by have := hr k e.symm; omega).trans (b.block k hk)⟩

/-- What is opened of a disk whose log has frames, and behind them what is none. -/
structure Opened (w w' : World) (p q : Nat) (rs : List ByteArray) (D D' S' : Nat → Prop) (d d' : DG) (l : LG) : Prop where
  log : IsLog w' q S' l
  recs : RecsAt l rs
  dp : l.dp = p
  fl : l.flushed = (allL rs).length
  kept : l.kept = 0
  bytes : l.bytes.length = (allL rs).length
  disk : IsDisk w' p D' d'
  all : d'.log = allL rs
  dead : d'.dead = false
  plan : d'.plan = []
  mark : d'.mark = d.mark
  calls : d'.calls ≤ d.calls + 2
  new : ∀ k, S' k → w.heap.size ≤ k
  off : ∀ k, S' k → ¬ D' k
  mv : Moves D D' w w'

theorem open_all {w : World} {p : Nat} {D : Nat → Prop} {d : DG} (h : IsDisk w p D d) (hd : d.dead = false) (hp : d.plan = []) (hc : d.calls ≤ 100000) (hl : d.log.length ≤ 4194304) (rs : List ByteArray) (tail : List UInt8) (hlog : d.log = allL rs ++ tail)
    (hsz : ∀ r ∈ rs, 1 ≤ r.size ∧ r.size ≤ 8192) (h0 : frameN ⟨d.log.toArray⟩ (allL rs).length = 0) :
    Calls Try.prog 7 #[.pointer (some ⟨p, 0, none⟩)] w fun e w' => ∃ q, e = .returned (.tuple #[.pointer (some ⟨q, 0, none⟩), .int .i64 (tail.length : Int), .int .i64 0]) ∧
      ∃ D' S' d' l, Opened w w' p q rs D D' S' d d' l := by
  obtain ⟨o1, o2, o3, o4⟩ := open_recs p d rs tail hlog hsz h0
  have hlen : d.log.length = (allL rs).length + tail.length := by rw [hlog, List.length_append]
  by_cases ht : tail = []
  · subst ht
    refine (open_out h hd hl (by rw [o4, hlen]; rfl)).mono ?_
    rintro e w' ⟨q, rfl, ⟨S', h1, h2⟩, b⟩
    refine ⟨q, rfl, D, S', d, _, h1, o1, rfl, o3, rfl, by rw [o2], h.below b, by rw [hlog, List.append_nil], hd, hp, rfl, by omega, h2, fun k x y => ?_, Moves.of_kept (Kept.of_below b)⟩
    have := h2 k x
    have := h.lt y
    omega
  · have htl : 0 < tail.length := List.length_pos_iff.2 ht
    refine (open_torn h hd hp hc hl _ o4 (by omega)).mono ?_
    rintro e w' ⟨q, rfl, S', D', h1, h2, h3, h4, h5⟩
    refine ⟨q, ?_, D', S', _, _, h1, o1, rfl, o3, rfl, by rw [o2], h2, ?_, hd, hp, rfl, Nat.le_refl _, h3, h4, h5⟩
    · rw [hlen, Nat.add_sub_cancel_left]
    · show d.log.take _ = _
      rw [hlog, List.take_left]

theorem says_all (w : World) (q : Nat) (S D : Nat → Prop) (l : LG) (d : DG) (rs : List ByteArray) (ta : Option Addr) (tc : Nat)
    (h : IsLog w q S l) (hR : RecsAt l rs) (hd : IsDisk w l.dp D d) (hdead : d.dead = false) (hT : TextsAt w ta rs) (hb : l.bytes.length = (allL rs).length) (hl : (allL rs).length ≤ 4194304) (hfl : l.flushed = (allL rs).length) (hk : l.kept = 0) (hm : d.mark = 0) :
    Calls Try.prog 10 #[.pointer (some ⟨q, 0, none⟩), .agg #[.slice ta rs.length tc, .int .i64 (rs.length : Nat), .int .i64 0, .int .u64 0], .agg #[.int .i64 0, .int .i64 0, .string ⟨#[]⟩, .int .u64 0, .int .i64 0, .int .u64 0, .int .i64 0, .int .i64 0, .int .i64 0]] w fun e w' => e = .returned (.bool true) ∧ Below w.heap.size w w' := by
  have hal := allL_len rs
  have hm0 := placeOf_mono rs (Nat.zero_le rs.length)
  have hm1 : placeOf rs 0 = 1 := rfl
  by_cases h0 : rs = []
  · subst h0
    exact says_none w q S D l d ta tc 0 0 0 ⟨#[]⟩ 0 0 0 0 0 0 h hR hd hdead hfl hk
  · obtain ⟨j, hj⟩ : ∃ j, j + 1 = rs.length := ⟨rs.length - 1, by have := List.length_pos_iff.2 h0; omega⟩
    refine says_more w q S D l d rs ta tc rs.length 0 0 0 0 ⟨#[]⟩ 0 0 0 0 0 0 h hR hd hdead hT (by unfold Sized; omega) (by omega) (by omega) (by omega) (Nat.le_refl _) hk (.inr ⟨rfl, fun i hi => ?_⟩) j hj
    rw [hm, hR.at (by rw [← hR.len]; exact hi)]
    have := placeOf_pos rs i
    omega

end Go.Proofs.Ytompofhdpkdbeaa
