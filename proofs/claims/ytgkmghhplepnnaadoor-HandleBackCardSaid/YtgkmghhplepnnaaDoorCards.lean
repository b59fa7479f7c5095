/-
  DERIVED. GIVEN WITH THE SEED: THE CARDS: each row of YtgkmghhplepnnaaDoorRows.lean that lists a variable, with what it lists TIED to the program's text (the seventh form; the later family's looks); each row that meets fmt, with fmt's text TOLD by the authors' own Lean function (tested against real Go, not proved from fmt's source: count such statements apart). THE CARD IS WHAT COUNTS. Prove the row's statement (the work); the ties are given (YtgkmghhplepnnaaDoorTie.lean); close each card by the builder's one call (the guide's Derived/Test/ToyasCard.lean, 'card_holds'). Laid BY PROGRAM, IN A SANDBOX (cutbox-door.mjs). By AI agents, Wed Nov 11 2026. No macro, syntax, notation, axiom, sorry.
-/
import Derived.Test.YtgkmghhplepnnaaDoorRows
import GoSem.ClaimSeven
namespace Go.Proofs.YtgkmghhplepnnaaDoor
namespace Rows

/-- THE TIED CARD OF 'copyholdlaw07.HandlePuts'. -/
def handlePutsCard : Claim7 := { stood := { row := handlePutsRow, standIns := [], harness := (true, "77fb842687b5f4fad97cf0060ae7915302a960844669d86dd75aed89f9e40e91"), looks := false }, kinds := [], alts := [], laidByText := true, laidKinds := [.wider], laidTests := true, laidLooks := .later }
def HandlePutsCardSaid : Prop := Claim7.holds Tryd.pinned (.plain (OpenSpec.ofChange handlePutsSpec)) handlePutsCard

/-- THE TIED CARD OF 'copyholdlaw07.HandleBack'. -/
def handleBackCard : Claim7 := { stood := { row := handleBackRow, standIns := [], harness := (true, "77fb842687b5f4fad97cf0060ae7915302a960844669d86dd75aed89f9e40e91"), looks := false }, kinds := [], alts := [], laidByText := true, laidKinds := [.wider], laidTests := true, laidLooks := .later }
def HandleBackCardSaid : Prop := Claim7.holds Tryd.pinned (.plain (OpenSpec.ofChange handleBackSpec)) handleBackCard

/-- THE SECOND FORM's CARD OF 'copyholdlaw07.HandlePuts'. -/
def handlePutsUptoCard : Claim7 := { stood := { row := handlePutsUptoRow, standIns := [], harness := (true, "77fb842687b5f4fad97cf0060ae7915302a960844669d86dd75aed89f9e40e91"), looks := false }, kinds := [], alts := [], laidByText := true, laidKinds := [.wider], laidTests := true, laidLooks := .later }
def HandlePutsUptoCardSaid : Prop := Claim7.holds Tryd.pinned (.plain (OpenSpec.upto handlePutsSpec)) handlePutsUptoCard

/-- THE SECOND FORM's CARD OF 'copyholdlaw07.HandleBack'. -/
def handleBackUptoCard : Claim7 := { stood := { row := handleBackUptoRow, standIns := [], harness := (true, "77fb842687b5f4fad97cf0060ae7915302a960844669d86dd75aed89f9e40e91"), looks := false }, kinds := [], alts := [], laidByText := true, laidKinds := [.wider], laidTests := true, laidLooks := .later }
def HandleBackUptoCardSaid : Prop := Claim7.holds Tryd.pinned (.plain (OpenSpec.upto handleBackSpec)) handleBackUptoCard
end Rows
end Go.Proofs.YtgkmghhplepnnaaDoor
