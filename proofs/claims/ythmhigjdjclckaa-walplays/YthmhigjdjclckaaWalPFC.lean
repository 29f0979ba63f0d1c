/-
  The log is opened anew.
-/
import Derived.Test.YthmhigjdjclckaaWalPEC
import Derived.Test.YthmhigjdjclckaaWalAwakeC
namespace Go.Proofs.Ythmhigjdjclckaa
open Go.RowKit
set_option linter.unusedVariables false
set_option linter.unusedSimpArgs false

section
variable {W : World} {p q : Nat} {S D : Nat → Prop} {l : LG} {d : DG} {rs : List ByteArray} {sure kept mark j : Nat} {ta : Option Addr}

theorem TextsAt.take {w : World} {a : Option Addr} {rs : List ByteArray} (h : TextsAt w a rs) (n : Nat) : TextsAt w a (rs.take n) := by
  rcases h with e | ⟨b, o, e, hb, hc⟩
  · subst e; exact .inl (by simp)
  · exact .inr ⟨b, o, e, hb, fun i hi => by
      have hi' : i < n ∧ i < rs.length := by simpa [List.length_take, Nat.lt_min] using hi
      have e2 : (rs.take n).getD i ⟨#[]⟩ = rs.getD i ⟨#[]⟩ := by rw [List.getD_eq_getElem?_getD, List.getD_eq_getElem?_getD, List.getElem?_take, if_pos hi'.1]
      rw [e2]
      exact hc i hi'.2⟩

set_option maxHeartbeats 800000 in
set_option maxRecDepth 60000 in
theorem wp_open (h : WpL W p q S D l d rs sure kept mark j) (hj : j ≤ 1000) :
    Calls Try.prog 6 #[.pointer (some ⟨p, 0, none⟩)] W fun e w' => ∃ q', e = .returned (.tuple #[.pointer (some ⟨q', 0, none⟩), .int .i64 0, .int .i64 0]) ∧ ∃ S', WpL w' p q' S' D (openL p d) d (rs.take sure) sure 0 mark j ∧ (∀ k, S' k → W.heap.size ≤ k) ∧ Below W.heap.size W w' := by
  have hlog : d.log = allL (rs.take sure) ++ [] := by rw [List.append_nil]; exact h.dlog
  have hsz : ∀ r ∈ rs.take sure, 1 ≤ r.size ∧ r.size ≤ 8192 := fun r hr => h.sz r (List.mem_of_mem_take hr)
  have h0 : frameN ⟨d.log.toArray⟩ (allL (rs.take sure)).length = 0 := frameN_end (by rw [bytes_size, h.dlog]; omega)
  obtain ⟨o1, o2, o3, o4⟩ := open_recs p d (rs.take sure) [] hlog hsz h0
  have hdl : d.log.length ≤ 4194304 := h.ok.log
  have hlen : (rs.take sure).length = sure := by rw [List.length_take]; have := h.su; omega
  refine (open_out h.disk h.dead hdl (by rw [o4, h.dlog])).mono ?_
  rintro e w' ⟨q', rfl, ⟨S', h1, h2⟩, b⟩
  refine ⟨q', rfl, S', ⟨h1, h.disk.below b, rfl, fun k x y => ?_, o2, o1, rfl, rfl, ?_, hsz, ?_, ?_, ?_, ?_, h.dead, h.plan, ?_, h.ok, h.loose, h.sl, ?_, h.mrk, h.sm, ?_, h.mz⟩, h2, b⟩
  · have := h2 k x
    have := h.disk.lt y
    omega
  · rw [o2, ← h.dlog]; omega
  · rw [hlen]; have := h.cnt; have := h.su; omega
  · rw [hlen]; exact Nat.le_refl _
  · rw [o3, List.take_take, Nat.min_self]
  · rw [List.take_take, Nat.min_self]; exact h.dlog
  · exact h.calls
  · exact h.nS
  · rcases h.mkp with e | ⟨i, hi, e⟩
    · exact .inl e
    · exact .inr ⟨i, hi, by rw [placeOf_take rs sure i (by omega) (by have := h.su; omega)]; exact e⟩

theorem OneS.opened {X Y : World} {S1 D1 S2 : Nat → Prop} {l' : LG} {m4 : Array Value} {a : AcV} {q' : Nat} (h : OneS W X p q S D S1 D1 l d rs rs sure kept mark j ta m4 a) (hw : WpL Y p q' S2 D1 l' d (rs.take sure) sure 0 mark j) (hn : ∀ k, S2 k → X.heap.size ≤ k) (b : Below X.heap.size X Y) :
    OneS W Y p q' S D S2 D1 l' d (rs.take sure) (rs.take sure) sure 0 mark j ta m4 a := by
  have hne : rs.take sure ≠ [] → rs ≠ [] := fun h1 h2 => h1 (by rw [h2]; simp)
  have hlt := h.inn.lt
  have hi := h.inn.below b
  refine ⟨hw, (h.tx.below b).take sure, fun h1 x hx => ⟨fun y => ?_, (h.off (hne h1) x hx).2⟩, fun h1 x hx => h.far (hne h1) x hx, ⟨hi.b0, hi.b1, hi.b2, ⟨hi.mv.1, fun k hk => ?_⟩, fun k hk => ?_⟩⟩
  · have := hn _ y
    rcases h.tx with e | ⟨g, o, e', hb, _⟩
    · exact hne h1 e
    · rw [e'] at hx
      obtain rfl := Option.some.inj hx
      simp only at this
      omega
  · rcases hk with y | y
    · exact .inr (by have := hn k y; omega)
    · exact h.inn.mv.2 k (.inr y)
  · rcases hk with y | y
    · exact .inr (by have := hn k y; omega)
    · exact h.inn.lo k (.inr y)

set_option maxHeartbeats 3200000 in
set_option maxRecDepth 8000 in
theorem one_open (h : WpL W p q S D l d rs sure kept mark j) (hj : j ≤ 100) (hT : TextsAt W ta rs) (hO : TOff rs ta S D) (tc : Nat) (hc : rs.length ≤ tc) (N : Int) (s : ByteArray) (x : Nat) (f1 : Int) (f2 : Nat) (f3 f4 f5 : Int) :
    Calls Try.prog 8 #[.pointer (some ⟨p, 0, none⟩), .pointer (some ⟨q, 0, none⟩), .agg #[.slice ta rs.length tc, .int .i64 sure, .int .i64 kept, .int .u64 mark], .agg #[.int .i64 6, .int .i64 N, .string s, .int .u64 x, .int .i64 f1, .int .u64 f2, .int .i64 f3, .int .i64 f4, .int .i64 f5]] W fun e w' => OneOut W p S D j e w' := by
  obtain ⟨X, HX⟩ : ∃ X, Hid (X = ((W.alloc (.cells (mCells ta rs.length tc sure kept mark) 34)).alloc (.cells (AcV.cells ⟨6, N, s, x, f1, f2, f3, f4, f5⟩) 40)).alloc (.cells zero4 34)) := ⟨_, rfl⟩
  have HS : Hid (OneS W X p q S D S D l d rs rs sure kept mark j ta (mCells ta rs.length tc sure kept mark) ⟨6, N, s, x, f1, f2, f3, f4, f5⟩) := by rw [HX.out]; exact OneS.start h hT hO _ _
  unfold mCells AcV.cells zero4 at HX
  simp only at HX
  have hfit := h.fits
  have hkk := h.keeps
  have hcn := h.cnt
  have hlg := h.long
  have hsu := h.su
  have s0 : (0 : Int) ≤ sure := by omega
  have s1 : (sure : Int) ≤ tc := by omega
  clear h hT hO
  have a0 : X.cell? ⟨W.heap.size + 1, 0, none⟩ = some (.int .i64 6) := HS.out.inn.b1.cell 0
  have a1 : X.cell? ⟨W.heap.size + 1, 1, none⟩ = some (.int .i64 N) := HS.out.inn.b1.cell 1
  have a2 : X.cell? ⟨W.heap.size + 1, 2, none⟩ = some (.string s) := HS.out.inn.b1.cell 2
  have a3 : X.cell? ⟨W.heap.size + 1, 3, none⟩ = some (.int .u64 x) := HS.out.inn.b1.cell 3
  go_enter Try.func8, Try.ntmps8
  go_upto_region 1 with fail
  rw [← HX.out]
  clear HX
  clear a0 a1 a2 a3
  have a0 : X.cell? ⟨W.heap.size + 1, 0, none⟩ = some (.int .i64 6) := HS.out.inn.b1.cell 0
  have HOP := hid (wp_open HS.out.wp (by omega))
  go_wp2_with fail
  refine HOP.out.mono ?_
  rintro e w5 ⟨q', rfl, S2, hw5, hn5, b5⟩
  have HS5 := hid (HS.out.opened hw5 hn5 b5)
  clear HOP HS hw5 hn5 b5
  obtain ⟨v0, v1, v2, v3⟩ := mcells HS5.out.inn.b0
  have g0 := HS5.out.inn.b0.frozen 0
  have g2 := HS5.out.inn.b0.frozen 2
  obtain ⟨V, HV⟩ : ∃ V, Hid (V = (w5.setCell ⟨W.heap.size, 0, none⟩ (.slice ta sure sure)).setCell ⟨W.heap.size, 2, none⟩ (.int .i64 0)) := ⟨_, rfl⟩
  have HS6 : Hid (OneS W V p q' S D S2 D (openL p d) d (rs.take sure) (rs.take sure) sure 0 mark (j + 1) ta (mCells ta sure sure sure 0 mark) ⟨6, N, s, x, f1, f2, f3, f4, f5⟩) := by rw [HV.out]; exact ((HS5.out.setm 0 _).setm 2 _).next
  go_upto_region 42 with fail
  rw [← HV.out]
  clear HV HS5 v0 v1 v2 v3 g0 g2
  obtain ⟨v0, v1, v2, v3⟩ := mcells HS6.out.inn.b0
  obtain ⟨z0, z1, z2, z3, y0, y1, y2, y3⟩ := zcells HS6.out.inn.b2
  go_region
  go_wp2_with fail
  refine bodyPost_ret (v := .tuple #[.pointer (some ⟨q', 0, none⟩), .agg #[.slice ta sure sure, .int .i64 sure, .int .i64 (0 : Nat), .int .u64 mark], .bool true]) (by simp [results, Try.results8, go_sem, z0, z1, z2, z3]) rfl ?_
  have hlen : (rs.take sure).length = sure := by rw [List.length_take]; omega
  have hdn : ∀ Y, Only3 W.heap.size V Y → OneOut W p S D j (.returned (.tuple #[.pointer (some ⟨q', 0, none⟩), .agg #[.slice ta (rs.take sure).length sure, .int .i64 sure, .int .i64 (0 : Nat), .int .u64 mark], .bool true])) Y := fun Y o => HS6.out.done o sure (by rw [hlen]; exact Nat.le_refl _)
  rw [hlen] at hdn
  exact hdn _ (((((Only3.refl _ _).set _ ⟨by omega, by omega⟩).set _ ⟨by omega, by omega⟩).set _ ⟨by omega, by omega⟩).set _ ⟨by omega, by omega⟩).drew

end

end Go.Proofs.Ythmhigjdjclckaa
