/-
  Flush of all in WalFalls; Crash of a disk that is dead.
-/
import Derived.Test.YthmhigjdjclckaaWalF7C
namespace Go.Proofs.Ythmhigjdjclckaa
open Go.RowKit
set_option linter.unusedVariables false

section
variable {W : World} {p q : Nat} {S D : Nat → Prop} {l : LG} {d : DG} {rs : List ByteArray} {sure j : Nat} {f : FG}

/-- What Flush leaves in WalFalls. -/
def FlOut (W : World) (p q : Nat) (S D : Nat → Prop) (rs : List ByteArray) (sure : Nat) (f : FG) (j : Nat) (e : Ending) (w' : World) : Prop :=
  Kept (fun k => S k ∨ D k) W w' ∧ ((e = .returned (.int .i64 0) ∧ ∃ D' l' d', WfL w' p q S D' l' d' rs rs.length f (j + 1) ∧ ∀ k, D' k → D k ∨ W.heap.size ≤ k) ∨
    (e = .returned (.int .i64 7) ∧ ∃ D' d', WfE w' p D' d' rs sure ∧ d'.dead = true ∧ ∀ k, D' k → D k ∨ W.heap.size ≤ k))

theorem wf_flush (h : WfL W p q S D l d rs sure f j) (hj : j ≤ 40) :
    Calls Try.prog 12 #[.pointer (some ⟨q, 0, none⟩), .int .u64 ((l.bytes.length + 1 : Nat) : Int)] W (FlOut W p q S D rs sure f j) := by
  obtain rfl := h.dp
  have hb := h.blen hj
  have hmono := allL_mono rs sure
  have hfl := h.fl
  have hby := h.bytes
  have hle : l.flushed ≤ l.bytes.length := by rw [hfl, hby]; exact hmono
  have hcalls := h.calls
  have hdl : d.log.length = l.flushed := by rw [h.dlog, hfl]
  by_cases c : l.flushed = l.bytes.length
  · refine (flush_none h.log hle (by omega) (l.bytes.length + 1) (.inl c)).mono ?_
    rintro e w' ⟨rfl, b⟩
    have hs : sure = rs.length := by
      have h1 := allL_take rs sure h.su
      have h2 := h.long
      have h3 := placeOf_mono rs h.su
      have := h.su
      omega
    refine ⟨Kept.of_below b, .inl ⟨rfl, D, l, d, ?_, fun k x => .inl x⟩⟩
    have := (h.below b).later (Nat.le_succ j)
    rw [hs] at this
    exact this
  · by_cases c1 : f.call = d.calls
    · refine (flush_fall1 h.log h.disk h.off h.half (by omega) (by omega) h.dead h.ok h.plan c1 h.keep (by omega) hdl (l.bytes.length + 1) (by omega)).mono ?_
      rintro e w' ⟨rfl, D', hd', hm⟩
      exact ⟨hm.1.mono fun k x => .inr x, .inr ⟨rfl, D', _, h.fails hj f [] hd', rfl, hm.2⟩⟩
    · by_cases c2 : f.call = d.calls + 1
      · have hok : (putD d ⟨(l.bytes.drop l.flushed).toArray⟩).ok := by
          refine ⟨h.ok.loose, h.ok.sure, h.ok.n, ?_, ?_⟩
          · show (d.log ++ _).length ≤ _
            rw [List.length_append]
            simp
            omega
          · show d.sl ≤ (d.log ++ _).length
            rw [List.length_append, h.sl]
            omega
        refine (flush_fall2 h.log h.disk h.off h.half (by omega) (by omega) h.dead hok h.plan c2 h.keep (by omega) hdl (l.bytes.length + 1) (by omega)).mono ?_
        rintro e w' ⟨rfl, D', hd', hm, hk⟩
        exact ⟨hk, .inr ⟨rfl, D', _, h.fails2 hj f [] hd', rfl, hm⟩⟩
      · refine (flush_yes h.log h.disk h.off h.half (by omega) (by omega) h.dead (.inr ⟨f, [], h.plan, c1⟩) (.inr ⟨f, [], h.plan, by show f.call ≠ ((d.calls + 1 : Nat) : Int); omega⟩) (by omega) hdl (l.bytes.length + 1) (by omega)).mono ?_
        rintro e w' ⟨rfl, D', hl', hd', ho', hn', hk⟩
        exact ⟨hk, .inl ⟨rfl, D', _, _, h.flushed hj hl' hd' ho', hn'⟩⟩

set_option maxHeartbeats 400000 in
set_option maxRecDepth 60000 in
theorem crash_dead (h : IsDisk W p D d) (hd : d.dead = true) (f : FG) :
    Calls Try.prog 15 #[.pointer (some ⟨p, 0, none⟩), .agg (fcells f).toArray] W fun x w' => x = .returned (.tuple #[]) ∧ Below W.heap.size W w' := by
  have hB : Below W.heap.size W (W.alloc (.cells (fcells f).toArray 38)) := (Below.refl _ _).alloc (Nat.le_refl _) _
  have HI : Hid (IsDisk (W.alloc (.cells (fcells f).toArray 38)) p D d) := h.below hB
  have HB : Hid (Below W.heap.size W (W.alloc (.cells (fcells f).toArray 38))) := hB
  unfold fcells at HI HB ⊢
  clear h hB
  go_enter Try.func15, Try.ntmps15
  go_wp2_with fail
  refine (dead_out HI.out).mono ?_
  rintro x w1 ⟨rfl, rfl⟩
  rw [hd]
  go_wp2
  refine bodyPost_ret (results_none rfl _ _ _) rfl ?_
  exact ⟨rfl, HB.out⟩

theorem wf_crash (h : (∃ q S l f j, j ≤ 40 ∧ WfL W p q S D l d rs sure f j) ∨ (WfE W p D d rs sure ∧ d.dead = true)) (x : Int) :
    Calls Try.prog 15 #[.pointer (some ⟨p, 0, none⟩), .agg #[.int .i64 0, .int .u64 0, .int .i64 0, .int .i64 0, .int .i64 x]] W fun e w' => e = .returned (.tuple #[]) ∧ ∃ D' d', WfE w' p D' d' rs sure ∧ Moves D D' W w' := by
  have e0 : (Value.agg #[.int .i64 0, .int .u64 0, .int .i64 0, .int .i64 0, .int .i64 x]) = .agg (fcells ⟨0, 0, 0, 0, x⟩).toArray := rfl
  rw [e0]
  rcases h with ⟨q, S, l, f, j, hj, h⟩ | ⟨h, hd⟩
  · refine (crash_out h.disk h.dead h.ok ⟨0, 0, 0, 0, x⟩ (by show (0 : Nat) < 18446744073709551616; decide)).mono ?_
    rintro e w' ⟨rfl, D', hd', hm⟩
    exact ⟨rfl, D', _, h.fails (f := f) hj ⟨0, 0, 0, 0, x⟩ d.plan hd', hm⟩
  · refine (crash_dead h.disk hd ⟨0, 0, 0, 0, x⟩).mono ?_
    rintro e w' ⟨rfl, b⟩
    exact ⟨rfl, D, d, h.below b, Moves.of_kept (Kept.of_below b)⟩

theorem wf_up (h : WfE W p D d rs sure) : Calls Try.prog 16 #[.pointer (some ⟨p, 0, none⟩)] W fun e w' => (∃ b, e = .returned (.bool b)) ∧ ∃ D', WfE w' p D' { d with dead := false } rs sure ∧ Moves D D' W w' := by
  refine (up_out h.disk).mono ?_
  rintro e w' ⟨rfl, D', hd', hm⟩
  exact ⟨⟨_, rfl⟩, D', ⟨hd', h.lg, h.few, h.calls, h.su, h.sz⟩, hm⟩

theorem wf_plan (h : WfE W p D d rs sure) : Calls Try.prog 10 #[.pointer (some ⟨p, 0, none⟩), .slice none 0 0] W fun e w' => e = .returned (.tuple #[]) ∧ ∃ D', WfE w' p D' { d with plan := [] } rs sure ∧ Moves D D' W w' := by
  refine (plan_nil h.disk).mono ?_
  rintro e w' ⟨rfl, D', hd', hm⟩
  exact ⟨rfl, D', ⟨hd', h.lg, h.few, h.calls, h.su, h.sz⟩, hm⟩

theorem wf_open (h : WfE W p D d rs sure) (h1 : d.dead = false) (h2 : d.plan = []) : Calls Try.prog 6 #[.pointer (some ⟨p, 0, none⟩)] W fun e w' => ∃ q k t, e = .returned (.tuple #[.pointer (some ⟨q, 0, none⟩), .int .i64 t, .int .i64 0]) ∧
    sure ≤ k ∧ k ≤ rs.length ∧ ∃ D' S' d' l, Opened W w' p q (rs.take k) D D' S' d d' l := by
  obtain ⟨n, hn1, hn2, hlog⟩ := h.lg
  obtain ⟨k, tail, hk, e1, e2, e3⟩ := cut_recs rs h.sz n hn2
  have hcalls := h.calls
  refine (open_all h.disk h1 h2 (by omega) ?_ (rs.take k) tail ?_ (fun r hr => h.sz r (List.mem_of_mem_take hr)) ?_).mono ?_
  · rw [hlog, List.length_take]; have := h.few; omega
  · rw [hlog]; exact e1
  · rw [hlog]; exact e2
  · rintro e w' ⟨q, rfl, D', S', d', l, ho⟩
    exact ⟨q, k, _, rfl, e3 sure h.su hn1, hk, D', S', d', l, ho⟩

end

end Go.Proofs.Ythmhigjdjclckaa
