/-
  DERIVED. GIVEN WITH THE SEED: THE CARDS: each row of YtgooajgoofojmaaDoorRows.lean that lists a variable, with what it lists TIED to the program's text (the seventh form; the later family's looks); each row that meets fmt, with fmt's text TOLD by the authors' own Lean function (tested against real Go, not proved from fmt's source: count such statements apart). THE CARD IS WHAT COUNTS. Prove the row's statement (the work); the ties are given (YtgooajgoofojmaaDoorTie.lean); close each card by the builder's one call (the guide's Derived/Test/ToyasCard.lean, 'card_holds'). Laid BY PROGRAM, IN A SANDBOX (cutbox-door.mjs). By AI agents, Wed Nov 11 2026. No macro, syntax, notation, axiom, sorry.
-/
import Derived.Test.YtgooajgoofojmaaDoorRows
import GoSem.ClaimSeven
namespace Go.Proofs.YtgooajgoofojmaaDoor
namespace Rows

/-- THE TIED CARD OF 'copyholdlaw17.FreePlays'. -/
def freePlaysCard : Claim7 := { stood := { row := freePlaysRow, standIns := [], harness := (true, "c55edb80f76b56cd47453173919ec19aa52e0b9ae8aed5b8b46dcf10cdbdde33"), looks := false }, kinds := [], alts := [], laidByText := true, laidKinds := [.data], laidTests := true, laidLooks := .later }
def FreePlaysCardSaid : Prop := Claim7.holds Tryd.pinned (.plain (OpenSpec.ofChange freePlaysSpec)) freePlaysCard

/-- THE TIED CARD OF 'copyholdlaw17.FreeBoth'. -/
def freeBothCard : Claim7 := { stood := { row := freeBothRow, standIns := [], harness := (true, "c55edb80f76b56cd47453173919ec19aa52e0b9ae8aed5b8b46dcf10cdbdde33"), looks := false }, kinds := [], alts := [], laidByText := true, laidKinds := [.data], laidTests := true, laidLooks := .later }
def FreeBothCardSaid : Prop := Claim7.holds Tryd.pinned (.plain (OpenSpec.ofChange freeBothSpec)) freeBothCard

/-- THE SECOND FORM's CARD OF 'copyholdlaw17.FreePlays'. -/
def freePlaysUptoCard : Claim7 := { stood := { row := freePlaysUptoRow, standIns := [], harness := (true, "c55edb80f76b56cd47453173919ec19aa52e0b9ae8aed5b8b46dcf10cdbdde33"), looks := false }, kinds := [], alts := [], laidByText := true, laidKinds := [.data], laidTests := true, laidLooks := .later }
def FreePlaysUptoCardSaid : Prop := Claim7.holds Tryd.pinned (.plain (OpenSpec.upto freePlaysSpec)) freePlaysUptoCard

/-- THE SECOND FORM's CARD OF 'copyholdlaw17.FreeBoth'. -/
def freeBothUptoCard : Claim7 := { stood := { row := freeBothUptoRow, standIns := [], harness := (true, "c55edb80f76b56cd47453173919ec19aa52e0b9ae8aed5b8b46dcf10cdbdde33"), looks := false }, kinds := [], alts := [], laidByText := true, laidKinds := [.data], laidTests := true, laidLooks := .later }
def FreeBothUptoCardSaid : Prop := Claim7.holds Tryd.pinned (.plain (OpenSpec.upto freeBothSpec)) freeBothUptoCard
end Rows
end Go.Proofs.YtgooajgoofojmaaDoor
