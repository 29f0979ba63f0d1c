/-
  The walk of RedoNil.
-/
import Derived.Test.YtgkfdakieebnmaaGreatRdAllJ
set_option linter.unusedVariables false
set_option linter.unusedSimpArgs false
namespace Go.Proofs.YtgkfdakieebnmaaGreat
open Go.RowKit Go.Sort Go.Shelf Go.Lib

theorem hit_nil (r : RecV) : ¬ hitR r [] := fun h => by
  obtain ⟨_, n, e, _⟩ := h
  cases e

set_option maxHeartbeats 6400000 in
set_option maxRecDepth 20000 in
theorem nil20_any (s : ByteArray) (hs : s.size ≤ 140737488351232) (w : World) : Calls Tryz.prog 5 #[.string s] w fun e w' => e = .returned (.bool true) ∧ Below w.heap.size w w' := by
  have HBG := hida (rbegun_any w 4 (by omega) (by omega))
  go_enter Tryz.func5, Tryz.ntmps5
  go_wp2_with fail
  refine HBG.out.mono ?_
  rintro e w1 ⟨p, q, pp, A, S, l, d, rfl, h1, p1⟩
  have HR1 := hida (show RdS w w1 p q A l d [] 0 0 ∧ PoAt w w1 A p q pp S (pool0 p q 4) from ⟨h1, p1⟩)
  clear HBG h1 p1
  go_wp2_with fail
  refine (redo_none w1).mono ?_
  rintro e w2 ⟨rfl, b2⟩
  have HR2 := hida (show RdS w w2 p q A l d [] 0 0 ∧ PoAt w w2 A p q pp S (pool0 p q 4) from ⟨HR1.out.1.below b2, HR1.out.2.below b2⟩)
  clear HR1 b2
  go_wp2_with fail
  refine (awake20_any w2).mono ?_
  rintro e w3 ⟨rfl, b3⟩
  have HR3 := hida (show RdS w w3 p q A l d [] 0 0 ∧ PoAt w w3 A p q pp S (pool0 p q 4) from ⟨HR2.out.1.below b3, HR2.out.2.below b3⟩)
  have HBL := hida HR3.out.1.bel
  clear HR2 b3
  by_cases g1 : s.size < 1
  · have d1 : decide ((s.size : Int) < 1) = true := decide_eq_true (by omega)
    go_wp2_with fail
    go_ret
    exact ⟨rfl, HBL.out⟩
  have d1 : decide ((s.size : Int) < 1) = false := decide_eq_false (by omega)
  by_cases g2 : 500 < s.size
  · have d2 : decide ((500 : Int) < (s.size : Int)) = true := decide_eq_true (by omega)
    go_wp2_with fail
    go_ret
    exact ⟨rfl, HBL.out⟩
  have d2 : decide ((500 : Int) < (s.size : Int)) = false := decide_eq_false (by omega)
  have HAP : Hid (Calls Tryz.prog 21 #[.pointer (some ⟨q, 0, none⟩), .string s] w3 fun e w' => e = .returned (.tuple #[.int .u64 1, .int .i64 0]) ∧ ∃ A' l', RdS w w' p q A' l' d [s] 0 1 ∧ Moves A A' w3 w') := rd_append HR3.out.1 (by omega) s (by omega) (by omega) (by show 1 + s.size + 12 ≤ 4194305; omega)
  clear HBL
  go_wp2_with fail
  refine HAP.out.mono ?_
  rintro e w4 ⟨rfl, A4, l4, h4, mv4⟩
  have HR4 := hida (show RdS w w4 p q A4 l4 d [s] 0 1 ∧ PoAt w w4 A4 p q pp S (pool0 p q 4) from ⟨h4, HR3.out.2.log mv4⟩)
  clear HAP HR3 h4 mv4
  rcases an_any s hs with ⟨r, hg, hok⟩ | hb
  · have HRU : Hid (Calls Tryz.prog 14 #[.pointer (some ⟨pp, 0, none⟩), .agg #[.slice none 0 0, .slice none 0 0, .int .u64 1, .int .i64 0, .int .i64 0]] w4 (RgOut w w4 p q pp l4 d s 0 1 (pool0 p q 4) r [] sheet0)) :=
      redo_good HR4.out.1 HR4.out.2 (by omega) none none 0 0 0 [] 0 0 (.inl rfl) (by decide) (fun x hx => by cases hx) r hg hok.page (fun hh => absurd hh (hit_nil r))
    have HDC := hida hg
    clear HR4 hg hok
    go_wp2_with fail
    refine HRU.out.mono ?_
    rintro e w5 ho
    obtain ⟨rfl, A5, S5, h5, _⟩ := ho.no (hit_nil r)
    have HB5 := hida h5.bel
    clear HRU ho h5
    go_wp2_with fail
    refine (HDC.out w5).mono ?_
    rintro e w6 ⟨ta, da, tc, dc, rfl, b6, _, _⟩
    have HB6 := hida (below_chain HB5.out b6)
    clear HDC HB5 b6
    rw [show r.cells ta da tc dc = #[.int .i64 r.kind, .int .i64 r.tx, .int .u64 r.prev, .int .u64 r.next, .int .u32 r.page, .int .i64 r.op.kind, .int .i64 r.op.at', .string r.op.S, .string r.op.old, .int .i64 r.undo, .int .i64 r.index, .string r.key, .int .u32 r.rpage, .int .i64 r.rslot, .bool r.live, .slice ta r.txs.length tc, .slice da r.dirty.length dc] from rfl]
    go_wp2_with fail
    go_ret
    exact ⟨rfl, HB6.out.alloc HB6.out.size _⟩
  · have HRU : Hid (Calls Tryz.prog 14 #[.pointer (some ⟨pp, 0, none⟩), .agg #[.slice none 0 0, .slice none 0 0, .int .u64 1, .int .i64 0, .int .i64 0]] w4 fun e w' => e = .returned (.tuple #[.int .i64 0, .int .i64 0, .int .i64 40]) ∧ Below w4.heap.size w4 w') :=
      redo_bad HR4.out.1 HR4.out.2 (by omega) none none 0 0 0 [] 0 0 (.inl rfl) (by decide) (fun x hx => by cases hx) hb
    have HDC := hida hb
    have HB4 := hida HR4.out.1.bel
    clear HR4 hb
    go_wp2_with fail
    refine HRU.out.mono ?_
    rintro e w5 ⟨rfl, b5⟩
    have HB5 := hida (below_chain HB4.out b5)
    clear HRU HB4 b5
    go_wp2_with fail
    refine (HDC.out w5).mono ?_
    rintro e w6 ⟨rfl, b6⟩
    have HB6 := hida (below_chain HB5.out b6)
    clear HDC HB5 b6
    rw [show zeroCellsR = #[.int .i64 0, .int .i64 0, .int .u64 0, .int .u64 0, .int .u32 0, .int .i64 0, .int .i64 0, .string ⟨#[]⟩, .string ⟨#[]⟩, .int .i64 0, .int .i64 0, .string ⟨#[]⟩, .int .u32 0, .int .i64 0, .bool false, .slice none 0 0, .slice none 0 0] from rfl]
    go_wp2_with fail
    go_ret
    first
      | exact ⟨rfl, HB6.out⟩
      | exact ⟨rfl, HB6.out.alloc HB6.out.size _⟩

end Go.Proofs.YtgkfdakieebnmaaGreat
