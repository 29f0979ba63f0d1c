/-
  No cell of these rows narrows 'for every input' (looked for: loops, veiled, ifaces, maps, wideKeys, modest, calm, conditions, laid).
  DERIVED. THE GIVEN ROWS OF THIS SEAT. 3 by the template 'for every input the law returns true; each argument reads behind the call as it read before'; 0 by the template 'total and deterministic' (their statements: YtdhphbokkmofaaaGreatTotals.lean).
  GIVEN WITH THE SEED: the statements are not yours to turn. If you find one false, say at which input.
  Laid BY PROGRAM, IN A SANDBOX (cutbox-rows.mjs): the forced cells as the released guide's own fill.sh prints them over the translation b5e01dfcb58a575a… (all of the seat's roots in one cut). By AI agents, Wed Nov 11 2026. No macro, syntax, notation, axiom, sorry.
-/
import Derived.Test.YtdhphbokkmofaaaGreatChecked
import GoSem.Claim
import GoSem.ClaimJoined
import GoSem.ClaimMapViews
import Derived.JoinedTies
import Derived.KernelRfl
namespace Go.Proofs.YtdhphbokkmofaaaGreat
/- THE CELL 'sum', in the pinned program and in every row, IS THE sha256 OF THE DUMP (.gsa) THAT YtdhphbokkmofaaaGreatProg.lean LOADS. Nothing in Lean hashes anything: it is a label: what it is worth is what the hold of that sum in a sandbox is worth. -/
noncomputable def Tryz.pinned : Pinned := { name := "ytdhphbokkmofaaagreat", sum := "b5e01dfcb58a575a29625223f2c3c111b00ed04107d3c1c75e865bc42dc49f58", checked := Tryz.checked }
namespace Rows
def none {H : Type} : Left H := { results := [], args := [] }

/-- 'girderlaw10.HeapPages': WHATEVER THE INPUT: true; the input reads as it did. -/
def heapPagesSpec : ChangeSpec := { name := "heapPages", fn := fun _ => fun
  | [d1, d2] => { results := [.lit (.bool true)], args := [d1, d2] }
  | _ => none }
def heapPagesRow : OpenClaim := { program := "ytdhphbokkmofaaagreat", sum := "b5e01dfcb58a575a29625223f2c3c111b00ed04107d3c1c75e865bc42dc49f58", func := "girder/girderlaw10.HeapPages", spec := "heapPages", inPlace := ["internal/abi.NoEscape", "internal/bytealg.MakeNoZero", "slices.overlaps[string]"], unfollowed := true, recurses := true, apart := false }
def HeapPagesSaid : Prop := heapPagesRow.holds Tryz.pinned (OpenSpec.ofChange heapPagesSpec)

/-- ITS FALSE NEIGHBOUR: 'it returns false'. Refute it at one input. -/
def heapPagesWrong : ChangeSpec := { name := "heapPages", fn := fun _ => fun
  | [d1, d2] => { results := [.lit (.bool false)], args := [d1, d2] }
  | _ => none }
def HeapPagesWrongFalsely : Prop := heapPagesRow.holds Tryz.pinned (OpenSpec.ofChange heapPagesWrong)

/-- 'girderlaw16.UndoOps': WHATEVER THE INPUT: true; the input reads as it did. -/
def undoOpsSpec : ChangeSpec := { name := "undoOps", fn := fun _ => fun
  | [d1, d2, d3] => { results := [.lit (.bool true)], args := [d1, d2, d3] }
  | _ => none }
def undoOpsRow : OpenClaim := { program := "ytdhphbokkmofaaagreat", sum := "b5e01dfcb58a575a29625223f2c3c111b00ed04107d3c1c75e865bc42dc49f58", func := "girder/girderlaw16.UndoOps", spec := "undoOps", inPlace := ["internal/abi.NoEscape", "internal/bytealg.MakeNoZero", "slices.overlaps[string]"], unfollowed := true, recurses := true, apart := false }
def UndoOpsSaid : Prop := undoOpsRow.holds Tryz.pinned (OpenSpec.ofChange undoOpsSpec)

/-- ITS FALSE NEIGHBOUR: 'it returns false'. Refute it at one input. -/
def undoOpsWrong : ChangeSpec := { name := "undoOps", fn := fun _ => fun
  | [d1, d2, d3] => { results := [.lit (.bool false)], args := [d1, d2, d3] }
  | _ => none }
def UndoOpsWrongFalsely : Prop := undoOpsRow.holds Tryz.pinned (OpenSpec.ofChange undoOpsWrong)

/-- 'girderlaw16.UndoWrong': WHATEVER THE INPUT: true; the input reads as it did. -/
def undoWrongSpec : ChangeSpec := { name := "undoWrong", fn := fun _ => fun
  | [d] => { results := [.lit (.bool true)], args := [d] }
  | _ => none }
def undoWrongRow : OpenClaim := { program := "ytdhphbokkmofaaagreat", sum := "b5e01dfcb58a575a29625223f2c3c111b00ed04107d3c1c75e865bc42dc49f58", func := "girder/girderlaw16.UndoWrong", spec := "undoWrong", inPlace := ["internal/abi.NoEscape", "internal/bytealg.MakeNoZero", "slices.overlaps[string]"], unfollowed := true, recurses := true, apart := false }
def UndoWrongSaid : Prop := undoWrongRow.holds Tryz.pinned (OpenSpec.ofChange undoWrongSpec)

/-- ITS FALSE NEIGHBOUR: 'it returns false'. Refute it at one input. -/
def undoWrongWrong : ChangeSpec := { name := "undoWrong", fn := fun _ => fun
  | [d] => { results := [.lit (.bool false)], args := [d] }
  | _ => none }
def UndoWrongWrongFalsely : Prop := undoWrongRow.holds Tryz.pinned (OpenSpec.ofChange undoWrongWrong)

/- THE SECOND FORM. 'bulk': how many values and letters a reading holds, each counted each time it is reached (what is shared counts as often as it is met; a slice's spare places count too). A statement '..UptoSaid' is the law's where the arguments, and the package variables that the reading takes, are together of bulk at most 1048576: NARROWER than '..Said'. Prove '..Said' where nothing that the law and all that it calls make is longer than what came in: it says more and counts as full. Else prove '..UptoSaid'. A law counts once. -/
mutual
def uptoBulk {H : Type} : DataW H → Nat
  | .lit (.string bytes) => bytes.length + 1
  | .lit _ => 1
  | .nil => 1
  | .ptr d => uptoBulk d + 1
  | .slice elems spare => uptoBulkAll elems + uptoBulkAll spare + 1
  | .agg parts => uptoBulkAll parts + 1
  | .iface _ d => uptoBulk d + 1
  | .map entries => uptoBulkEntries entries + 1
  | .held _ => 1
def uptoBulkAll {H : Type} : List (DataW H) → Nat
  | [] => 0
  | d :: r => uptoBulk d + uptoBulkAll r
def uptoBulkEntries {H : Type} : List (Lit × DataW H) → Nat
  | [] => 0
  | x :: r => uptoBulkEntry x + uptoBulkEntries r
def uptoBulkEntry {H : Type} : Lit × DataW H → Nat
  | (.string bytes, d) => bytes.length + uptoBulk d + 1
  | (_, d) => uptoBulk d + 1
 end
def uptoSmall : (H : Type) → List (DataW H) → Bool := fun _ ds => decide (uptoBulkAll ds ≤ 1048576)
def OpenSpec.upto (s : _root_.Go.ChangeSpec) : _root_.Go.OpenSpec := { _root_.Go.OpenSpec.ofChange s with cond := some uptoSmall }

/-- 'girderlaw10.HeapPages', WHERE WHAT IT READS IS OF BULK AT MOST 1048576: true; the input reads as it did. -/
def heapPagesUptoRow : OpenClaim := { program := "ytdhphbokkmofaaagreat", sum := "b5e01dfcb58a575a29625223f2c3c111b00ed04107d3c1c75e865bc42dc49f58", func := "girder/girderlaw10.HeapPages", spec := "heapPages", inPlace := ["internal/abi.NoEscape", "internal/bytealg.MakeNoZero", "slices.overlaps[string]"], unfollowed := true, recurses := true, apart := false, narrowed := true }
def HeapPagesUptoSaid : Prop := heapPagesUptoRow.holds Tryz.pinned (OpenSpec.upto heapPagesSpec)

/-- 'girderlaw16.UndoOps', WHERE WHAT IT READS IS OF BULK AT MOST 1048576: true; the input reads as it did. -/
def undoOpsUptoRow : OpenClaim := { program := "ytdhphbokkmofaaagreat", sum := "b5e01dfcb58a575a29625223f2c3c111b00ed04107d3c1c75e865bc42dc49f58", func := "girder/girderlaw16.UndoOps", spec := "undoOps", inPlace := ["internal/abi.NoEscape", "internal/bytealg.MakeNoZero", "slices.overlaps[string]"], unfollowed := true, recurses := true, apart := false, narrowed := true }
def UndoOpsUptoSaid : Prop := undoOpsUptoRow.holds Tryz.pinned (OpenSpec.upto undoOpsSpec)

/-- 'girderlaw16.UndoWrong', WHERE WHAT IT READS IS OF BULK AT MOST 1048576: true; the input reads as it did. -/
def undoWrongUptoRow : OpenClaim := { program := "ytdhphbokkmofaaagreat", sum := "b5e01dfcb58a575a29625223f2c3c111b00ed04107d3c1c75e865bc42dc49f58", func := "girder/girderlaw16.UndoWrong", spec := "undoWrong", inPlace := ["internal/abi.NoEscape", "internal/bytealg.MakeNoZero", "slices.overlaps[string]"], unfollowed := true, recurses := true, apart := false, narrowed := true }
def UndoWrongUptoSaid : Prop := undoWrongUptoRow.holds Tryz.pinned (OpenSpec.upto undoWrongSpec)

end Rows
end Go.Proofs.YtdhphbokkmofaaaGreat
