/-
  No cell of these rows narrows 'for every input' (looked for: loops, veiled, ifaces, maps, wideKeys, modest, calm, conditions, laid).
  DERIVED. THE GIVEN ROWS OF THIS SEAT. 4 by the template 'for every input the law returns true; each argument reads behind the call as it read before'; 0 by the template 'total and deterministic' (their statements: YtgkfdakieebnmaaGreatTotals.lean).
  GIVEN WITH THE SEED: the statements are not yours to turn. If you find one false, say at which input.
  Laid BY PROGRAM, IN A SANDBOX (cutbox-rows.mjs): the forced cells as the released guide's own fill.sh prints them over the translation b35188d2a3a6d43d… (all of the seat's roots in one cut). By AI agents, Wed Nov 11 2026. No macro, syntax, notation, axiom, sorry.
-/
import Derived.Test.YtgkfdakieebnmaaGreatChecked
import GoSem.Claim
import GoSem.ClaimJoined
import GoSem.ClaimMapViews
import Derived.JoinedTies
import Derived.KernelRfl
namespace Go.Proofs.YtgkfdakieebnmaaGreat
/- THE CELL 'sum', in the pinned program and in every row, IS THE sha256 OF THE DUMP (.gsa) THAT YtgkfdakieebnmaaGreatProg.lean LOADS. Nothing in Lean hashes anything: it is a label: what it is worth is what the hold of that sum in a sandbox is worth. -/
noncomputable def Tryz.pinned : Pinned := { name := "ytgkfdakieebnmaagreat", sum := "b35188d2a3a6d43d3f01c4883871f2d4de806fbc317114e50490b31cd5a92728", checked := Tryz.checked }
namespace Rows
def none {H : Type} : Left H := { results := [], args := [] }

/-- 'girderlaw20.RedoRepeats': WHATEVER THE INPUT: true; the input reads as it did. -/
def redoRepeatsSpec : ChangeSpec := { name := "redoRepeats", fn := fun _ => fun
  | [d1, d2, d3] => { results := [.lit (.bool true)], args := [d1, d2, d3] }
  | _ => none }
def redoRepeatsRow : OpenClaim := { program := "ytgkfdakieebnmaagreat", sum := "b35188d2a3a6d43d3f01c4883871f2d4de806fbc317114e50490b31cd5a92728", func := "girder/girderlaw20.RedoRepeats", spec := "redoRepeats", inPlace := ["internal/abi.NoEscape", "internal/bytealg.MakeNoZero", "slices.overlaps[string]"], unfollowed := true, recurses := true, apart := false }
def RedoRepeatsSaid : Prop := redoRepeatsRow.holds Tryz.pinned (OpenSpec.ofChange redoRepeatsSpec)

/-- ITS FALSE NEIGHBOUR: 'it returns false'. Refute it at one input. -/
def redoRepeatsWrong : ChangeSpec := { name := "redoRepeats", fn := fun _ => fun
  | [d1, d2, d3] => { results := [.lit (.bool false)], args := [d1, d2, d3] }
  | _ => none }
def RedoRepeatsWrongFalsely : Prop := redoRepeatsRow.holds Tryz.pinned (OpenSpec.ofChange redoRepeatsWrong)

/-- 'girderlaw20.RedoOnes': WHATEVER THE INPUT: true; the input reads as it did. -/
def redoOnesSpec : ChangeSpec := { name := "redoOnes", fn := fun _ => fun
  | [d1, d2, d3] => { results := [.lit (.bool true)], args := [d1, d2, d3] }
  | _ => none }
def redoOnesRow : OpenClaim := { program := "ytgkfdakieebnmaagreat", sum := "b35188d2a3a6d43d3f01c4883871f2d4de806fbc317114e50490b31cd5a92728", func := "girder/girderlaw20.RedoOnes", spec := "redoOnes", inPlace := ["internal/abi.NoEscape", "internal/bytealg.MakeNoZero", "slices.overlaps[string]"], unfollowed := true, recurses := true, apart := false }
def RedoOnesSaid : Prop := redoOnesRow.holds Tryz.pinned (OpenSpec.ofChange redoOnesSpec)

/-- ITS FALSE NEIGHBOUR: 'it returns false'. Refute it at one input. -/
def redoOnesWrong : ChangeSpec := { name := "redoOnes", fn := fun _ => fun
  | [d1, d2, d3] => { results := [.lit (.bool false)], args := [d1, d2, d3] }
  | _ => none }
def RedoOnesWrongFalsely : Prop := redoOnesRow.holds Tryz.pinned (OpenSpec.ofChange redoOnesWrong)

/-- 'girderlaw20.RedoNil': WHATEVER THE INPUT: true; the input reads as it did. -/
def redoNilSpec : ChangeSpec := { name := "redoNil", fn := fun _ => fun
  | [d] => { results := [.lit (.bool true)], args := [d] }
  | _ => none }
def redoNilRow : OpenClaim := { program := "ytgkfdakieebnmaagreat", sum := "b35188d2a3a6d43d3f01c4883871f2d4de806fbc317114e50490b31cd5a92728", func := "girder/girderlaw20.RedoNil", spec := "redoNil", inPlace := ["internal/abi.NoEscape", "internal/bytealg.MakeNoZero", "slices.overlaps[string]"], unfollowed := true, recurses := true, apart := false }
def RedoNilSaid : Prop := redoNilRow.holds Tryz.pinned (OpenSpec.ofChange redoNilSpec)

/-- ITS FALSE NEIGHBOUR: 'it returns false'. Refute it at one input. -/
def redoNilWrong : ChangeSpec := { name := "redoNil", fn := fun _ => fun
  | [d] => { results := [.lit (.bool false)], args := [d] }
  | _ => none }
def RedoNilWrongFalsely : Prop := redoNilRow.holds Tryz.pinned (OpenSpec.ofChange redoNilWrong)

/-- 'girderlaw20.RedoSizes': WHATEVER THE INPUT: true; the input reads as it did. -/
def redoSizesSpec : ChangeSpec := { name := "redoSizes", fn := fun _ => fun
  | [d1, d2, d3] => { results := [.lit (.bool true)], args := [d1, d2, d3] }
  | _ => none }
def redoSizesRow : OpenClaim := { program := "ytgkfdakieebnmaagreat", sum := "b35188d2a3a6d43d3f01c4883871f2d4de806fbc317114e50490b31cd5a92728", func := "girder/girderlaw20.RedoSizes", spec := "redoSizes", inPlace := ["internal/abi.NoEscape", "internal/bytealg.MakeNoZero", "slices.overlaps[string]"], unfollowed := true, recurses := true, apart := false }
def RedoSizesSaid : Prop := redoSizesRow.holds Tryz.pinned (OpenSpec.ofChange redoSizesSpec)

/-- ITS FALSE NEIGHBOUR: 'it returns false'. Refute it at one input. -/
def redoSizesWrong : ChangeSpec := { name := "redoSizes", fn := fun _ => fun
  | [d1, d2, d3] => { results := [.lit (.bool false)], args := [d1, d2, d3] }
  | _ => none }
def RedoSizesWrongFalsely : Prop := redoSizesRow.holds Tryz.pinned (OpenSpec.ofChange redoSizesWrong)

/- THE SECOND FORM. 'bulk': how many values and letters a reading holds, each counted each time it is reached (what is shared counts as often as it is met; a slice's spare places count too). A statement '..UptoSaid' is the law's where the arguments, and the package variables that the reading takes, are together of bulk at most 1048576: NARROWER than '..Said'. Prove '..Said' where nothing that the law and all that it calls make is longer than what came in: it says more and counts as full. Else prove '..UptoSaid'. A law counts once. -/
mutual
def uptoBulk {H : Type} : DataW H → Nat
  | .lit (.string bytes) => bytes.length + 1
  | .lit _ => 1
  | .nil => 1
  | .ptr d => uptoBulk d + 1
  | .slice elems spare => uptoBulkAll elems + uptoBulkAll spare + 1
  | .agg parts => uptoBulkAll parts + 1
  | .iface _ d => uptoBulk d + 1
  | .map entries => uptoBulkEntries entries + 1
  | .held _ => 1
def uptoBulkAll {H : Type} : List (DataW H) → Nat
  | [] => 0
  | d :: r => uptoBulk d + uptoBulkAll r
def uptoBulkEntries {H : Type} : List (Lit × DataW H) → Nat
  | [] => 0
  | x :: r => uptoBulkEntry x + uptoBulkEntries r
def uptoBulkEntry {H : Type} : Lit × DataW H → Nat
  | (.string bytes, d) => bytes.length + uptoBulk d + 1
  | (_, d) => uptoBulk d + 1
 end
def uptoSmall : (H : Type) → List (DataW H) → Bool := fun _ ds => decide (uptoBulkAll ds ≤ 1048576)
def OpenSpec.upto (s : _root_.Go.ChangeSpec) : _root_.Go.OpenSpec := { _root_.Go.OpenSpec.ofChange s with cond := some uptoSmall }

/-- 'girderlaw20.RedoRepeats', WHERE WHAT IT READS IS OF BULK AT MOST 1048576: true; the input reads as it did. -/
def redoRepeatsUptoRow : OpenClaim := { program := "ytgkfdakieebnmaagreat", sum := "b35188d2a3a6d43d3f01c4883871f2d4de806fbc317114e50490b31cd5a92728", func := "girder/girderlaw20.RedoRepeats", spec := "redoRepeats", inPlace := ["internal/abi.NoEscape", "internal/bytealg.MakeNoZero", "slices.overlaps[string]"], unfollowed := true, recurses := true, apart := false, narrowed := true }
def RedoRepeatsUptoSaid : Prop := redoRepeatsUptoRow.holds Tryz.pinned (OpenSpec.upto redoRepeatsSpec)

/-- 'girderlaw20.RedoOnes', WHERE WHAT IT READS IS OF BULK AT MOST 1048576: true; the input reads as it did. -/
def redoOnesUptoRow : OpenClaim := { program := "ytgkfdakieebnmaagreat", sum := "b35188d2a3a6d43d3f01c4883871f2d4de806fbc317114e50490b31cd5a92728", func := "girder/girderlaw20.RedoOnes", spec := "redoOnes", inPlace := ["internal/abi.NoEscape", "internal/bytealg.MakeNoZero", "slices.overlaps[string]"], unfollowed := true, recurses := true, apart := false, narrowed := true }
def RedoOnesUptoSaid : Prop := redoOnesUptoRow.holds Tryz.pinned (OpenSpec.upto redoOnesSpec)

/-- 'girderlaw20.RedoNil', WHERE WHAT IT READS IS OF BULK AT MOST 1048576: true; the input reads as it did. -/
def redoNilUptoRow : OpenClaim := { program := "ytgkfdakieebnmaagreat", sum := "b35188d2a3a6d43d3f01c4883871f2d4de806fbc317114e50490b31cd5a92728", func := "girder/girderlaw20.RedoNil", spec := "redoNil", inPlace := ["internal/abi.NoEscape", "internal/bytealg.MakeNoZero", "slices.overlaps[string]"], unfollowed := true, recurses := true, apart := false, narrowed := true }
def RedoNilUptoSaid : Prop := redoNilUptoRow.holds Tryz.pinned (OpenSpec.upto redoNilSpec)

/-- 'girderlaw20.RedoSizes', WHERE WHAT IT READS IS OF BULK AT MOST 1048576: true; the input reads as it did. -/
def redoSizesUptoRow : OpenClaim := { program := "ytgkfdakieebnmaagreat", sum := "b35188d2a3a6d43d3f01c4883871f2d4de806fbc317114e50490b31cd5a92728", func := "girder/girderlaw20.RedoSizes", spec := "redoSizes", inPlace := ["internal/abi.NoEscape", "internal/bytealg.MakeNoZero", "slices.overlaps[string]"], unfollowed := true, recurses := true, apart := false, narrowed := true }
def RedoSizesUptoSaid : Prop := redoSizesUptoRow.holds Tryz.pinned (OpenSpec.upto redoSizesSpec)

end Rows
end Go.Proofs.YtgkfdakieebnmaaGreat
