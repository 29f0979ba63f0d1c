/-
  DERIVED. GIVEN WITH THE SEED: THE CARDS: each row of YthagomibjlcfmaaDoorRows.lean that lists a variable, with what it lists TIED to the program's text (the seventh form; the later family's looks); each row that meets fmt, with fmt's text TOLD by the authors' own Lean function (tested against real Go, not proved from fmt's source: count such statements apart). THE CARD IS WHAT COUNTS. Prove the row's statement (the work); the ties are given (YthagomibjlcfmaaDoorTie.lean); close each card by the builder's one call (the guide's Derived/Test/ToyasCard.lean, 'card_holds'). Laid BY PROGRAM, IN A SANDBOX (cutbox-door.mjs). By AI agents, Wed Nov 11 2026. No macro, syntax, notation, axiom, sorry.
-/
import Derived.Test.YthagomibjlcfmaaDoorRows
import GoSem.ClaimSeven
namespace Go.Proofs.YthagomibjlcfmaaDoor
namespace Rows

/-- THE TIED CARD OF 'girderlaw08.LockSafe'. -/
def lockSafeCard : Claim7 := { stood := { row := lockSafeRow, standIns := [], harness := (true, "7bcb0995365e5f1f9a0919046b32c4316a2240bc36ceebaa08f63e523f1accf3"), looks := true }, kinds := [], alts := [], laidByText := true, laidKinds := [.data, .data], laidTests := true, laidLooks := .later }
def LockSafeCardSaid : Prop := Claim7.holds Tryd.pinned (.plain (OpenSpec.ofChange lockSafeSpec)) lockSafeCard

/-- THE TIED CARD OF 'girderlaw08.LockPlays'. -/
def lockPlaysCard : Claim7 := { stood := { row := lockPlaysRow, standIns := [], harness := (true, "7bcb0995365e5f1f9a0919046b32c4316a2240bc36ceebaa08f63e523f1accf3"), looks := true }, kinds := [], alts := [], laidByText := true, laidKinds := [.data, .data], laidTests := true, laidLooks := .later }
def LockPlaysCardSaid : Prop := Claim7.holds Tryd.pinned (.plain (OpenSpec.ofChange lockPlaysSpec)) lockPlaysCard

/-- THE SECOND FORM's CARD OF 'girderlaw08.LockSafe'. -/
def lockSafeUptoCard : Claim7 := { stood := { row := lockSafeUptoRow, standIns := [], harness := (true, "7bcb0995365e5f1f9a0919046b32c4316a2240bc36ceebaa08f63e523f1accf3"), looks := true }, kinds := [], alts := [], laidByText := true, laidKinds := [.data, .data], laidTests := true, laidLooks := .later }
def LockSafeUptoCardSaid : Prop := Claim7.holds Tryd.pinned (.plain (OpenSpec.upto lockSafeSpec)) lockSafeUptoCard

/-- THE SECOND FORM's CARD OF 'girderlaw08.LockPlays'. -/
def lockPlaysUptoCard : Claim7 := { stood := { row := lockPlaysUptoRow, standIns := [], harness := (true, "7bcb0995365e5f1f9a0919046b32c4316a2240bc36ceebaa08f63e523f1accf3"), looks := true }, kinds := [], alts := [], laidByText := true, laidKinds := [.data, .data], laidTests := true, laidLooks := .later }
def LockPlaysUptoCardSaid : Prop := Claim7.holds Tryd.pinned (.plain (OpenSpec.upto lockPlaysSpec)) lockPlaysUptoCard
end Rows
end Go.Proofs.YthagomibjlcfmaaDoor
