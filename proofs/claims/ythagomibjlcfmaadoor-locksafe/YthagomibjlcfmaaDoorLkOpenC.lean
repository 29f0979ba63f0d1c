/-
  The name of a lock that came in, opened.
-/
import Derived.Test.YthagomibjlcfmaaDoorLkMapsC
import Derived.ProofKit
import Derived.OpenShut
import Derived.ChangeOld
import Derived.SizedLaws
namespace Go.Proofs.YthagomibjlcfmaaDoor
open Go.ChangeShapes Go.WideShapes Go.ChangeAt Go.RowKit
set_option linter.unusedVariables false

theorem cName : Tryd.prog.cellsOf 33 = 4 := by kernel_rfl
theorem cRID : Tryd.prog.cellsOf 31 = 2 := by kernel_rfl
theorem cInt : Tryd.prog.cellsOf 3 = 1 := by kernel_rfl
theorem cPage : Tryd.prog.cellsOf 29 = 1 := by kernel_rfl

set_option maxRecDepth 100000 in
theorem open_name {H : Type} {enc : TypeId × Value → H} {w : World} {base b0 : Nat} {r : Reach} {spare : Nat → Bool} {held : Bool} {v : Value} {d : DataW H} {pl : List MemPlace}
    (hv : Value.okWide Tryd.prog w r b0 33 v) (h : DataW.Trod enc Tryd.prog w base spare held 33 v d pl) : ∃ n : NameV, v = nval n := by
  obtain ⟨fuel, hf⟩ := h
  obtain ⟨cs, rfl, hsz⟩ := okWide_struct Tryd.underlying33 hv
  rw [cName] at hsz
  obtain ⟨cl⟩ := cs
  match cl, hsz with
  | [x0, x1, x2, x3], _ =>
  simp only [Value.cells] at hf
  obtain ⟨xs, m, _, hx, hl, hlen, hfs⟩ := DataW.trod_struct Tryd.underlying33 hf
  have g0 := hfs 0 _ rfl
  have g1 := hfs 1 _ rfl
  have g2 := hfs 2 _ rfl
  try simp only [cInt, cRID] at g0 g1 g2
  match xs, hlen with
  | [y0, y1, y2], _ =>
  simp at g0 g1 g2
  obtain ⟨k0, e0, _⟩ := DataW.trod_int Tryd.underlying3 g0
  obtain ⟨k1, e1, _⟩ := DataW.trod_int Tryd.underlying3 g1
  obtain ⟨zs, m2, _, hx2, hl2, hlen2, hfs2⟩ := DataW.trod_struct Tryd.underlying31 g2
  have r0 := hfs2 0 _ rfl
  have r1 := hfs2 1 _ rfl
  try simp only [cInt, cPage] at r0 r1
  match zs, hlen2 with
  | [z0, z1], _ =>
  simp at r0 r1
  obtain ⟨k2, e2, _, wf2⟩ := DataW.trod_int Tryd.underlying29 r0
  obtain ⟨k3, e3, _⟩ := DataW.trod_int Tryd.underlying3 r1
  obtain rfl : x0 = .int .i64 k0 := by simpa [cInt, cRID, cPage] using e0
  obtain rfl : x1 = .int .i64 k1 := by simpa [cInt, cRID, cPage] using e1
  obtain rfl : x2 = .int .u32 k2 := by simpa [cInt, cRID, cPage] using e2
  obtain rfl : x3 = .int .i64 k3 := by simpa [cInt, cRID, cPage] using e3
  have h0 : 0 ≤ k2 := by
    have e1 : IntKind.u32.min = 0 := by decide
    have e2 : IntKind.u32.max = 4294967295 := by decide
    have := wf2
    simp [Lit.wf, e1, e2] at this
    exact this.1
  refine ⟨(k0, k1, k2.toNat, k3), ?_⟩
  unfold nval
  simp only
  rw [show ((k2.toNat : Nat) : Int) = k2 from by omega]

end Go.Proofs.YthagomibjlcfmaaDoor
