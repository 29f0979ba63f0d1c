/-
  AppendLog and SyncLog where the plan's first fall is not due, and where it strikes.
-/
import Derived.Test.YthmhigjdjclckaaWalF1C
import Derived.Test.YthmhigjdjclckaaDiskLogC
namespace Go.Proofs.Ythmhigjdjclckaa
open Go.RowKit
set_option linter.unusedVariables false

/-- No fall of the plan strikes at this call. -/
def NotDue (d : DG) : Prop := d.plan = [] ∨ ∃ f r, d.plan = f :: r ∧ f.call ≠ d.calls

theorem powered_yes {w : World} {p : Nat} {m : Mem} {d : DG} (hD : DiskAt w p m d) (hl : NotDue d) (hc : d.calls ≤ 1000000) :
    Calls Try.prog 48 #[.pointer (some ⟨p, 0, none⟩)] w fun e w' => e = .returned (.bool true) ∧
      DiskAt w' p m { d with calls := d.calls + 1 } ∧ Kept (fun k => k = p) w w' := by
  rcases hl with hl | ⟨f, r, hl, hne⟩
  · exact powered_none hD hl hc
  · exact powered_other hD hl hne hc

section
variable {w : World} {p : Nat} {S : Nat → Prop} {d : DG}

set_option maxHeartbeats 1600000 in
set_option maxRecDepth 8000 in
theorem appendLog_yes (h : IsDisk w p S d) (hd : d.dead = false) (hl : NotDue d) (hn : d.calls ≤ 1000000) (s : ByteArray) (hs : d.log.length + s.size ≤ 4194304) :
    Calls Try.prog 41 #[.pointer (some ⟨p, 0, none⟩), .string s] w fun x w' => x = .returned (.int .i64 0) ∧ ∃ S', IsDisk w' p S' (putD d s) ∧ Moves S S' w w' := by
  obtain ⟨m, hD, hS, _⟩ := h
  obtain ⟨a, c, hv⟩ : ∃ a c, m.logV = .slice a d.log.length c := by
    rcases hD.parts.log.2 with ⟨e1, e2⟩ | ⟨g', cap', cur', e1, _⟩
    · exact ⟨none, 0, by rw [e1, e2]⟩
    · exact ⟨_, _, e1⟩
  have c9 := hD.blk.cells.c9
  rw [hv] at c9
  have HD : Hid (DiskAt w p m d) := hD
  have HS : Hid (∀ k, m.has p k → S k) := hS
  clear hD hS
  have hs' : (s.size : Int) ≤ 4194304 - (d.log.length : Int) := by omega
  go_enter Try.func41, Try.ntmps41
  go_wp2_with fail
  refine (dead_any HD.out.blk.cells).mono ?_
  rintro x w1 ⟨rfl, rfl⟩
  rw [hd]
  go_wp2_with fail
  refine (powered_yes HD.out hl hn).mono ?_
  rintro x w2 ⟨rfl, hD1, hK1⟩
  have HD1 : Hid (DiskAt w2 p m { d with calls := d.calls + 1 }) := hD1
  have HK1 : Hid (Kept (fun k => k = p) _ w2) := hK1
  clear hD1 hK1 c9
  have c9 := HD1.out.blk.cells.c9
  have hlt := HD1.out.lt
  have hown := HD1.out.parts.log
  rw [hv] at c9 hown
  go_wp2_with (at_builtin; refine wpList_text_at _ rfl _ _ rfl (.slice a d.log.length c) d.log.length (cellsOf d.log) rfl hown s rfl (by omega) ?_)
  intro v' w3 hown' hgrow hloc
  obtain ⟨a', c', hv'⟩ : ∃ a' c', v' = .slice a' (d.log.length + s.size) c' := by
    rcases hown'.2 with ⟨e1, e2⟩ | ⟨g, cap, cur, e1, _⟩
    · exact ⟨none, 0, by rw [e1, e2]⟩
    · exact ⟨_, _, e1⟩
  rw [← hv] at hgrow hloc
  have hown2 : w3.ownsRow 0 5 1 v' (d.log ++ s.data.toList).length (cellsOf (d.log ++ s.data.toList)) := by
    have e : (d.log ++ s.data.toList).length = d.log.length + s.size := by simp
    rw [e]
    rw [strCells_eq] at hown'
    have e2 : cellsOf (d.log ++ s.data.toList) = cellsOf d.log ++ cellsOf s.data.toList := by simp [cellsOf]
    rw [e2]
    exact hown'
  obtain ⟨hb3, hD3, hK3⟩ := logged HD1.out hown2 hgrow hloc
  have hpb : m.logV.ownBlock ≠ some p := fun e => HD1.out.off (.inr (.inr (.inr (.inl e)))) rfl
  have c9' : w3.cell? ⟨p, 9, none⟩ = some m.logV := (World.cell?_of_block (w := w2) (a := ⟨p, 9, none⟩) (hb3 p hlt hpb)).trans HD1.out.blk.cells.c9
  have f9' : w3.frozen? ⟨p, 9, none⟩ = false := (World.frozen?_of_block (w := w2) (a := ⟨p, 9, none⟩) (hb3 p hlt hpb)).trans (HD1.out.blk.cells.fr 9)
  have HD3 : Hid (DiskAt (w3.setCell ⟨p, 9, none⟩ v') p { m with logV := v' } (putD d s)) := hD3
  have HK3 : Hid (Kept (m.has p) w2 (w3.setCell ⟨p, 9, none⟩ v')) := hK3
  have HR : Hid (∀ k, v'.ownBlock = some k → m.logV.ownBlock = some k ∨ w2.heap.size ≤ k) := hloc
  clear hb3 hD3 hK3 hown2 hown' hown hgrow hloc c9 hpb
  subst hv'
  go_wp2
  go_ret
  refine ⟨rfl, ?_⟩
  refine moved HD.out HS.out HD3.out ?_ ((HK1.out.mono fun k e => .inl e).trans HK3.out) fun k x => x
  have hz := HK1.out.size
  rintro k (x | x | x | x | x)
  · exact .inl (.inl x)
  · exact .inl (.inr (.inl x))
  · exact .inl (.inr (.inr (.inl x)))
  · rcases HR.out k x with y | y
    · exact .inl (.inr (.inr (.inr (.inl y))))
    · exact .inr (by omega)
  · exact .inl (.inr (.inr (.inr (.inr x))))

set_option maxHeartbeats 1600000 in
set_option maxRecDepth 8000 in
theorem syncLog_yes (h : IsDisk w p S d) (hd : d.dead = false) (hl : NotDue d) (hn : d.calls ≤ 1000000) (hll : d.log.length ≤ 1000000000) :
    Calls Try.prog 23 #[.pointer (some ⟨p, 0, none⟩)] w fun x w' => x = .returned (.int .i64 0) ∧ ∃ S', IsDisk w' p S' { d with calls := d.calls + 1, sl := d.log.length } ∧ Moves S S' w w' := by
  obtain ⟨m, hD, hS, _⟩ := h
  obtain ⟨a, c, hv⟩ : ∃ a c, m.logV = .slice a d.log.length c := by
    rcases hD.parts.log.2 with ⟨e1, e2⟩ | ⟨g', cap', cur', e1, _⟩
    · exact ⟨none, 0, by rw [e1, e2]⟩
    · exact ⟨_, _, e1⟩
  have HD : Hid (DiskAt w p m d) := hD
  have HS : Hid (∀ k, m.has p k → S k) := hS
  clear hD hS
  go_enter Try.func23, Try.ntmps23
  go_wp2_with fail
  refine (dead_any HD.out.blk.cells).mono ?_
  rintro x w1 ⟨rfl, rfl⟩
  rw [hd]
  go_wp2_with fail
  refine (powered_yes HD.out hl hn).mono ?_
  rintro x w2 ⟨rfl, hD1, hK1⟩
  have HD1 : Hid (DiskAt w2 p m { d with calls := d.calls + 1 }) := hD1
  have HK1 : Hid (Kept (fun k => k = p) _ w2) := hK1
  clear hD1 hK1
  have c9 := HD1.out.blk.cells.c9
  rw [hv] at c9
  go_wp2_with fail
  refine (cut_any HD1.out d.log.length (Nat.le_refl _) hll).mono ?_
  rintro x w3 ⟨rfl, ⟨v, hd3, hvb⟩, hk3⟩
  rw [show ({ d with calls := d.calls + 1 } : DG).log = d.log from rfl, List.take_length] at hd3
  have HF : Hid (∃ S', IsDisk w3 p S' { d with calls := d.calls + 1, sl := d.log.length } ∧ Moves S S' w1 w3) := by
    refine moved HD.out HS.out hd3 ?_ (HK1.out.trans hk3) fun k x => .inl x
    rintro k (x | x | x | x | x)
    · exact .inl (.inl x)
    · exact .inl (.inr (.inl x))
    · exact .inl (.inr (.inr (.inl x)))
    · simp only at x
      rcases hvb with e | e
      · rw [e] at x; cases x
      · rw [e] at x; exact .inl (.inr (.inr (.inr (.inl x))))
    · exact .inl (.inr (.inr (.inr (.inr x))))
  clear hd3 hk3 hvb
  go_wp2
  go_ret
  exact ⟨rfl, HF.out⟩

set_option maxHeartbeats 1600000 in
set_option maxRecDepth 8000 in
theorem appendLog_falls (h : IsDisk w p S d) (hd : d.dead = false) (hok : d.ok) {f : FG} {r : List FG} (hl : d.plan = f :: r) (he : f.call = d.calls) (hf : f.keep < 18446744073709551616) (s : ByteArray) (hs : d.log.length + s.size ≤ 4194304) :
    Calls Try.prog 41 #[.pointer (some ⟨p, 0, none⟩), .string s] w fun x w' => x = .returned (.int .i64 7) ∧ ∃ S', IsDisk w' p S' (failD f { d with plan := r }) ∧ Moves S S' w w' := by
  obtain ⟨m, hD, hS, _⟩ := h
  obtain ⟨a, c, hv⟩ : ∃ a c, m.logV = .slice a d.log.length c := by
    rcases hD.parts.log.2 with ⟨e1, e2⟩ | ⟨g', cap', cur', e1, _⟩
    · exact ⟨none, 0, by rw [e1, e2]⟩
    · exact ⟨_, _, e1⟩
  have c9 := hD.blk.cells.c9
  rw [hv] at c9
  have HD : Hid (DiskAt w p m d) := hD
  have HS : Hid (∀ k, m.has p k → S k) := hS
  have HL : Hid (d.plan = f :: r) := hl
  clear hD hS hl
  have hs' : (s.size : Int) ≤ 4194304 - (d.log.length : Int) := by omega
  go_enter Try.func41, Try.ntmps41
  go_wp2_with fail
  refine (dead_any HD.out.blk.cells).mono ?_
  rintro x w1 ⟨rfl, rfl⟩
  rw [hd]
  go_wp2_with fail
  refine (powered_falls HD.out hok HL.out he hf).mono ?_
  rintro x w2 ⟨rfl, ⟨m2, hD2, hr2⟩, hK2⟩
  have HF : Hid (∃ S', IsDisk w2 p S' (failD f { d with plan := r }) ∧ Moves S S' _ w2) := moved HD.out HS.out hD2 hr2 hK2 (fun k x => by
    rcases x with x | x
    · exact .inl x
    · exact .inr (.inl x))
  clear hD2 hr2 hK2 c9
  go_wp2
  go_ret
  exact ⟨rfl, HF.out⟩

set_option maxHeartbeats 1600000 in
set_option maxRecDepth 8000 in
theorem syncLog_falls (h : IsDisk w p S d) (hd : d.dead = false) (hok : d.ok) {f : FG} {r : List FG} (hl : d.plan = f :: r) (he : f.call = d.calls) (hf : f.keep < 18446744073709551616) :
    Calls Try.prog 23 #[.pointer (some ⟨p, 0, none⟩)] w fun x w' => x = .returned (.int .i64 7) ∧ ∃ S', IsDisk w' p S' (failD f { d with plan := r }) ∧ Moves S S' w w' := by
  obtain ⟨m, hD, hS, _⟩ := h
  have HD : Hid (DiskAt w p m d) := hD
  have HS : Hid (∀ k, m.has p k → S k) := hS
  have HL : Hid (d.plan = f :: r) := hl
  clear hD hS hl
  go_enter Try.func23, Try.ntmps23
  go_wp2_with fail
  refine (dead_any HD.out.blk.cells).mono ?_
  rintro x w1 ⟨rfl, rfl⟩
  rw [hd]
  go_wp2_with fail
  refine (powered_falls HD.out hok HL.out he hf).mono ?_
  rintro x w2 ⟨rfl, ⟨m2, hD2, hr2⟩, hK2⟩
  have HF : Hid (∃ S', IsDisk w2 p S' (failD f { d with plan := r }) ∧ Moves S S' _ w2) := moved HD.out HS.out hD2 hr2 hK2 (fun k x => by
    rcases x with x | x
    · exact .inl x
    · exact .inr (.inl x))
  clear hD2 hr2 hK2
  go_wp2
  go_ret
  exact ⟨rfl, HF.out⟩

end

end Go.Proofs.Ythmhigjdjclckaa
