/-
  DERIVED. GIVEN WITH THE SEED: THE CARDS: each row of YtfniepccldkahaaDoorRows.lean that lists a variable, with what it lists TIED to the program's text (the seventh form; the later family's looks); each row that meets fmt, with fmt's text TOLD by the authors' own Lean function (tested against real Go, not proved from fmt's source: count such statements apart). THE CARD IS WHAT COUNTS. Prove the row's statement (the work); the ties are given (YtfniepccldkahaaDoorTie.lean); close each card by the builder's one call (the guide's Derived/Test/ToyasCard.lean, 'card_holds'). Laid BY PROGRAM, IN A SANDBOX (cutbox-door.mjs). By AI agents, Wed Nov 11 2026. No macro, syntax, notation, axiom, sorry.
-/
import Derived.Test.YtfniepccldkahaaDoorRows
import GoSem.ClaimSeven
namespace Go.Proofs.YtfniepccldkahaaDoor
namespace Rows

/-- THE TIED CARD OF 'girderlaw08.LockPlays'. -/
def lockPlaysCard : Claim7 := { stood := { row := lockPlaysRow, standIns := [], harness := (true, "8a658c98fe45edf24d23747323e903d8764041f7044e28ea6064b50020a141b1"), looks := true }, kinds := [], alts := [], laidByText := true, laidKinds := [.data, .data], laidTests := true, laidLooks := .later }
def LockPlaysCardSaid : Prop := Claim7.holds Tryd.pinned (.plain (OpenSpec.ofChange lockPlaysSpec)) lockPlaysCard

/-- THE TIED CARD OF 'girderlaw08.LockModes'. -/
def lockModesCard : Claim7 := { stood := { row := lockModesRow, standIns := [], harness := (true, "8a658c98fe45edf24d23747323e903d8764041f7044e28ea6064b50020a141b1"), looks := true }, kinds := [], alts := [], laidByText := true, laidKinds := [.data, .data], laidTests := true, laidLooks := .later }
def LockModesCardSaid : Prop := Claim7.holds Tryd.pinned (.plain (OpenSpec.ofChange lockModesSpec)) lockModesCard

/-- THE TIED CARD OF 'girderlaw08.LockSafe'. -/
def lockSafeCard : Claim7 := { stood := { row := lockSafeRow, standIns := [], harness := (true, "8a658c98fe45edf24d23747323e903d8764041f7044e28ea6064b50020a141b1"), looks := true }, kinds := [], alts := [], laidByText := true, laidKinds := [.data, .data], laidTests := true, laidLooks := .later }
def LockSafeCardSaid : Prop := Claim7.holds Tryd.pinned (.plain (OpenSpec.ofChange lockSafeSpec)) lockSafeCard

/-- THE TIED CARD OF 'girderlaw08.LockNil'. -/
def lockNilCard : Claim7 := { stood := { row := lockNilRow, standIns := [], harness := (true, "8a658c98fe45edf24d23747323e903d8764041f7044e28ea6064b50020a141b1"), looks := true }, kinds := [], alts := [], laidByText := true, laidKinds := [.data, .data], laidTests := true, laidLooks := .later }
def LockNilCardSaid : Prop := Claim7.holds Tryd.pinned (.plain (OpenSpec.ofChange lockNilSpec)) lockNilCard

/-- THE TIED CARD OF 'girderlaw08.LockTurns'. -/
def lockTurnsCard : Claim7 := { stood := { row := lockTurnsRow, standIns := [], harness := (true, "8a658c98fe45edf24d23747323e903d8764041f7044e28ea6064b50020a141b1"), looks := true }, kinds := [], alts := [], laidByText := true, laidKinds := [.data, .data], laidTests := true, laidLooks := .later }
def LockTurnsCardSaid : Prop := Claim7.holds Tryd.pinned (.plain (OpenSpec.ofChange lockTurnsSpec)) lockTurnsCard

/-- THE TIED CARD OF 'girderlaw08.LockOnce'. -/
def lockOnceCard : Claim7 := { stood := { row := lockOnceRow, standIns := [], harness := (true, "8a658c98fe45edf24d23747323e903d8764041f7044e28ea6064b50020a141b1"), looks := true }, kinds := [], alts := [], laidByText := true, laidKinds := [.data, .data], laidTests := true, laidLooks := .later }
def LockOnceCardSaid : Prop := Claim7.holds Tryd.pinned (.plain (OpenSpec.ofChange lockOnceSpec)) lockOnceCard

/-- THE SECOND FORM's CARD OF 'girderlaw08.LockPlays'. -/
def lockPlaysUptoCard : Claim7 := { stood := { row := lockPlaysUptoRow, standIns := [], harness := (true, "8a658c98fe45edf24d23747323e903d8764041f7044e28ea6064b50020a141b1"), looks := true }, kinds := [], alts := [], laidByText := true, laidKinds := [.data, .data], laidTests := true, laidLooks := .later }
def LockPlaysUptoCardSaid : Prop := Claim7.holds Tryd.pinned (.plain (OpenSpec.upto lockPlaysSpec)) lockPlaysUptoCard

/-- THE SECOND FORM's CARD OF 'girderlaw08.LockModes'. -/
def lockModesUptoCard : Claim7 := { stood := { row := lockModesUptoRow, standIns := [], harness := (true, "8a658c98fe45edf24d23747323e903d8764041f7044e28ea6064b50020a141b1"), looks := true }, kinds := [], alts := [], laidByText := true, laidKinds := [.data, .data], laidTests := true, laidLooks := .later }
def LockModesUptoCardSaid : Prop := Claim7.holds Tryd.pinned (.plain (OpenSpec.upto lockModesSpec)) lockModesUptoCard

/-- THE SECOND FORM's CARD OF 'girderlaw08.LockSafe'. -/
def lockSafeUptoCard : Claim7 := { stood := { row := lockSafeUptoRow, standIns := [], harness := (true, "8a658c98fe45edf24d23747323e903d8764041f7044e28ea6064b50020a141b1"), looks := true }, kinds := [], alts := [], laidByText := true, laidKinds := [.data, .data], laidTests := true, laidLooks := .later }
def LockSafeUptoCardSaid : Prop := Claim7.holds Tryd.pinned (.plain (OpenSpec.upto lockSafeSpec)) lockSafeUptoCard

/-- THE SECOND FORM's CARD OF 'girderlaw08.LockNil'. -/
def lockNilUptoCard : Claim7 := { stood := { row := lockNilUptoRow, standIns := [], harness := (true, "8a658c98fe45edf24d23747323e903d8764041f7044e28ea6064b50020a141b1"), looks := true }, kinds := [], alts := [], laidByText := true, laidKinds := [.data, .data], laidTests := true, laidLooks := .later }
def LockNilUptoCardSaid : Prop := Claim7.holds Tryd.pinned (.plain (OpenSpec.upto lockNilSpec)) lockNilUptoCard

/-- THE SECOND FORM's CARD OF 'girderlaw08.LockTurns'. -/
def lockTurnsUptoCard : Claim7 := { stood := { row := lockTurnsUptoRow, standIns := [], harness := (true, "8a658c98fe45edf24d23747323e903d8764041f7044e28ea6064b50020a141b1"), looks := true }, kinds := [], alts := [], laidByText := true, laidKinds := [.data, .data], laidTests := true, laidLooks := .later }
def LockTurnsUptoCardSaid : Prop := Claim7.holds Tryd.pinned (.plain (OpenSpec.upto lockTurnsSpec)) lockTurnsUptoCard

/-- THE SECOND FORM's CARD OF 'girderlaw08.LockOnce'. -/
def lockOnceUptoCard : Claim7 := { stood := { row := lockOnceUptoRow, standIns := [], harness := (true, "8a658c98fe45edf24d23747323e903d8764041f7044e28ea6064b50020a141b1"), looks := true }, kinds := [], alts := [], laidByText := true, laidKinds := [.data, .data], laidTests := true, laidLooks := .later }
def LockOnceUptoCardSaid : Prop := Claim7.holds Tryd.pinned (.plain (OpenSpec.upto lockOnceSpec)) lockOnceUptoCard
end Rows
end Go.Proofs.YtfniepccldkahaaDoor
