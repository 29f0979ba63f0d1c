/-
  DERIVED. GIVEN WITH THE SEED: THE CARDS: each row of YtgammhmgdafpkaaDoorRows.lean that lists a variable, with what it lists TIED to the program's text (the seventh form; the later family's looks); each row that meets fmt, with fmt's text TOLD by the authors' own Lean function (tested against real Go, not proved from fmt's source: count such statements apart). THE CARD IS WHAT COUNTS. Prove the row's statement (the work); the ties are given (YtgammhmgdafpkaaDoorTie.lean); close each card by the builder's one call (the guide's Derived/Test/ToyasCard.lean, 'card_holds'). Laid BY PROGRAM, IN A SANDBOX (cutbox-door.mjs). By AI agents, Wed Nov 11 2026. No macro, syntax, notation, axiom, sorry.
-/
import Derived.Test.YtgammhmgdafpkaaDoorRows
import GoSem.ClaimSeven
namespace Go.Proofs.YtgammhmgdafpkaaDoor
namespace Rows

/-- THE TIED CARD OF 'girderlaw11.KeyKeys'. -/
def keyKeysCard : Claim7 := { stood := { row := keyKeysRow, standIns := [], harness := (true, "204c2f2acab353bc4771b11726bfb4aafdf44a67b023eff532e850d78f88fac1"), looks := true }, kinds := [], alts := [], laidByText := true, laidKinds := [.data, .pinned], laidTests := true, laidLooks := .later }
def KeyKeysCardSaid : Prop := Claim7.holds Tryd.pinned (.plain (OpenSpec.ofChange keyKeysSpec)) keyKeysCard

/-- THE TIED CARD OF 'girderlaw11.KeyTexts'. -/
def keyTextsCard : Claim7 := { stood := { row := keyTextsRow, standIns := [], harness := (true, "204c2f2acab353bc4771b11726bfb4aafdf44a67b023eff532e850d78f88fac1"), looks := true }, kinds := [], alts := [], laidByText := true, laidKinds := [.data, .data, .data, .sentinel, .sentinel], laidTests := true, laidLooks := .later }
def KeyTextsCardSaid : Prop := Claim7.holds Tryd.pinned (.plain (OpenSpec.ofChange keyTextsSpec)) keyTextsCard

/-- THE TIED CARD OF 'girderlaw11.KeyBegins'. -/
def keyBeginsCard : Claim7 := { stood := { row := keyBeginsRow, standIns := [], harness := (true, "204c2f2acab353bc4771b11726bfb4aafdf44a67b023eff532e850d78f88fac1"), looks := true }, kinds := [], alts := [], laidByText := true, laidKinds := [.data, .pinned], laidTests := true, laidLooks := .later }
def KeyBeginsCardSaid : Prop := Claim7.holds Tryd.pinned (.plain (OpenSpec.ofChange keyBeginsSpec)) keyBeginsCard

/-- THE SECOND FORM's CARD OF 'girderlaw11.KeyKeys'. -/
def keyKeysUptoCard : Claim7 := { stood := { row := keyKeysUptoRow, standIns := [], harness := (true, "204c2f2acab353bc4771b11726bfb4aafdf44a67b023eff532e850d78f88fac1"), looks := true }, kinds := [], alts := [], laidByText := true, laidKinds := [.data, .pinned], laidTests := true, laidLooks := .later }
def KeyKeysUptoCardSaid : Prop := Claim7.holds Tryd.pinned (.plain (OpenSpec.upto keyKeysSpec)) keyKeysUptoCard

/-- THE SECOND FORM's CARD OF 'girderlaw11.KeyTexts'. -/
def keyTextsUptoCard : Claim7 := { stood := { row := keyTextsUptoRow, standIns := [], harness := (true, "204c2f2acab353bc4771b11726bfb4aafdf44a67b023eff532e850d78f88fac1"), looks := true }, kinds := [], alts := [], laidByText := true, laidKinds := [.data, .data, .data, .sentinel, .sentinel], laidTests := true, laidLooks := .later }
def KeyTextsUptoCardSaid : Prop := Claim7.holds Tryd.pinned (.plain (OpenSpec.upto keyTextsSpec)) keyTextsUptoCard

/-- THE SECOND FORM's CARD OF 'girderlaw11.KeyBegins'. -/
def keyBeginsUptoCard : Claim7 := { stood := { row := keyBeginsUptoRow, standIns := [], harness := (true, "204c2f2acab353bc4771b11726bfb4aafdf44a67b023eff532e850d78f88fac1"), looks := true }, kinds := [], alts := [], laidByText := true, laidKinds := [.data, .pinned], laidTests := true, laidLooks := .later }
def KeyBeginsUptoCardSaid : Prop := Claim7.holds Tryd.pinned (.plain (OpenSpec.upto keyBeginsSpec)) keyBeginsUptoCard
end Rows
end Go.Proofs.YtgammhmgdafpkaaDoor
