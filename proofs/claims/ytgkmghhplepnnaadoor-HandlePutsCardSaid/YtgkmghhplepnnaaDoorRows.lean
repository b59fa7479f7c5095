/-
  NARROWER THAN 'FOR EVERY INPUT', by the rows' own cells (each row's printed sentence says how): HandlePuts: laid · HandleBack: laid.
  DERIVED. THE GIVEN ROWS OF THIS SEAT. 2 by the template 'for every input the law returns true; each argument reads behind the call as it read before'; 0 by the template 'total and deterministic' (their statements: YtgkmghhplepnnaaDoorTotals.lean).
  GIVEN WITH THE SEED: the statements are not yours to turn. If you find one false, say at which input.
  Laid BY PROGRAM, IN A SANDBOX (cutbox-rows.mjs): the forced cells as the released guide's own fill.sh prints them over the translation af01479970e5b78f… (all of the seat's roots in one cut). By AI agents, Wed Nov 11 2026. No macro, syntax, notation, axiom, sorry.
-/
import Derived.Test.YtgkmghhplepnnaaDoorChecked
import GoSem.Claim
import GoSem.ClaimJoined
import GoSem.ClaimMapViews
import Derived.JoinedTies
import Derived.KernelRfl
namespace Go.Proofs.YtgkmghhplepnnaaDoor
/- THE CELL 'sum', in the pinned program and in every row, IS THE sha256 OF THE DUMP (.gsa) THAT YtgkmghhplepnnaaDoorProg.lean LOADS. Nothing in Lean hashes anything: it is a label: what it is worth is what the hold of that sum in a sandbox is worth. -/
noncomputable def Tryd.pinned : Pinned := { name := "ytgkmghhplepnnaadoor", sum := "af01479970e5b78f94648d0fccfee3aa928a94acc11cc5b3b27df1fa2ca5f7ba", checked := Tryd.checked }
namespace Rows
def none {H : Type} : Left H := { results := [], args := [] }

/- WHAT THE LISTED PACKAGE-LEVEL VARIABLES READ AS WHEN THE CALL BEGINS. Each datum BY PROGRAM (the guide's laid-datum.mjs) off the statement by which the dump's own 'gosem.cut.vars' lays the variable. In a bare row this is a premise. The card (YtgkmghhplepnnaaDoorCards.lean) ties it to the program's text. -/
def laid_copyhold_handle_parts {H : Type} : DataW H := .agg [.agg [.lit (.int .i64 1), .lit (.int .i64 3), .lit (.int .i64 1152921504606846976), .lit (.int .i64 1)], .agg [.lit (.int .i64 0), .lit (.int .i64 1048575), .lit (.int .i64 1099511627776), .lit (.int .i64 6)], .agg [.lit (.int .i64 0), .lit (.int .i64 1048575), .lit (.int .i64 1048576), .lit (.int .i64 6)], .agg [.lit (.int .i64 0), .lit (.int .i64 1048575), .lit (.int .i64 1), .lit (.int .i64 6)]]

/-- 'copyholdlaw07.HandlePuts': WHATEVER THE INPUT: true; the input reads as it did. -/
def handlePutsSpec : ChangeSpec := { name := "handlePuts", fn := fun _ => fun
  | [d1, d2] => { results := [.lit (.bool true)], args := [d1, d2] }
  | _ => none }
def handlePutsRow : OpenClaim := { program := "ytgkmghhplepnnaadoor", sum := "af01479970e5b78f94648d0fccfee3aa928a94acc11cc5b3b27df1fa2ca5f7ba", func := "copyhold/copyholdlaw07.HandlePuts", spec := "handlePuts", named := ["copyhold/handle.parts"], apart := false, laid := [("copyhold/handle.parts", laid_copyhold_handle_parts)] }
def HandlePutsSaid : Prop := handlePutsRow.holds Tryd.pinned (OpenSpec.ofChange handlePutsSpec)

/-- ITS FALSE NEIGHBOUR: 'it returns false'. Refute it at one input. -/
def handlePutsWrong : ChangeSpec := { name := "handlePuts", fn := fun _ => fun
  | [d1, d2] => { results := [.lit (.bool false)], args := [d1, d2] }
  | _ => none }
def HandlePutsWrongFalsely : Prop := handlePutsRow.holds Tryd.pinned (OpenSpec.ofChange handlePutsWrong)

/-- 'copyholdlaw07.HandleBack': WHATEVER THE INPUT: true; the input reads as it did. -/
def handleBackSpec : ChangeSpec := { name := "handleBack", fn := fun _ => fun
  | [d1, d2, d3] => { results := [.lit (.bool true)], args := [d1, d2, d3] }
  | _ => none }
def handleBackRow : OpenClaim := { program := "ytgkmghhplepnnaadoor", sum := "af01479970e5b78f94648d0fccfee3aa928a94acc11cc5b3b27df1fa2ca5f7ba", func := "copyhold/copyholdlaw07.HandleBack", spec := "handleBack", named := ["copyhold/handle.parts"], apart := false, laid := [("copyhold/handle.parts", laid_copyhold_handle_parts)] }
def HandleBackSaid : Prop := handleBackRow.holds Tryd.pinned (OpenSpec.ofChange handleBackSpec)

/-- ITS FALSE NEIGHBOUR: 'it returns false'. Refute it at one input. -/
def handleBackWrong : ChangeSpec := { name := "handleBack", fn := fun _ => fun
  | [d1, d2, d3] => { results := [.lit (.bool false)], args := [d1, d2, d3] }
  | _ => none }
def HandleBackWrongFalsely : Prop := handleBackRow.holds Tryd.pinned (OpenSpec.ofChange handleBackWrong)

/- THE SECOND FORM. 'bulk': how many values and letters a reading holds, each counted each time it is reached (what is shared counts as often as it is met; a slice's spare places count too). A statement '..UptoSaid' is the law's where the arguments, and the package variables that the reading takes, are together of bulk at most 1048576: NARROWER than '..Said'. Prove '..Said' where nothing that the law and all that it calls make is longer than what came in: it says more and counts as full. Else prove '..UptoSaid'. A law counts once. -/
mutual
def uptoBulk {H : Type} : DataW H → Nat
  | .lit (.string bytes) => bytes.length + 1
  | .lit _ => 1
  | .nil => 1
  | .ptr d => uptoBulk d + 1
  | .slice elems spare => uptoBulkAll elems + uptoBulkAll spare + 1
  | .agg parts => uptoBulkAll parts + 1
  | .iface _ d => uptoBulk d + 1
  | .map entries => uptoBulkEntries entries + 1
  | .held _ => 1
def uptoBulkAll {H : Type} : List (DataW H) → Nat
  | [] => 0
  | d :: r => uptoBulk d + uptoBulkAll r
def uptoBulkEntries {H : Type} : List (Lit × DataW H) → Nat
  | [] => 0
  | x :: r => uptoBulkEntry x + uptoBulkEntries r
def uptoBulkEntry {H : Type} : Lit × DataW H → Nat
  | (.string bytes, d) => bytes.length + uptoBulk d + 1
  | (_, d) => uptoBulk d + 1
 end
def uptoSmall : (H : Type) → List (DataW H) → Bool := fun _ ds => decide (uptoBulkAll ds ≤ 1048576)
def OpenSpec.upto (s : _root_.Go.ChangeSpec) : _root_.Go.OpenSpec := { _root_.Go.OpenSpec.ofChange s with cond := some uptoSmall }

/-- 'copyholdlaw07.HandlePuts', WHERE WHAT IT READS IS OF BULK AT MOST 1048576: true; the input reads as it did. -/
def handlePutsUptoRow : OpenClaim := { program := "ytgkmghhplepnnaadoor", sum := "af01479970e5b78f94648d0fccfee3aa928a94acc11cc5b3b27df1fa2ca5f7ba", func := "copyhold/copyholdlaw07.HandlePuts", spec := "handlePuts", named := ["copyhold/handle.parts"], apart := false, laid := [("copyhold/handle.parts", laid_copyhold_handle_parts)], narrowed := true }
def HandlePutsUptoSaid : Prop := handlePutsUptoRow.holds Tryd.pinned (OpenSpec.upto handlePutsSpec)

/-- 'copyholdlaw07.HandleBack', WHERE WHAT IT READS IS OF BULK AT MOST 1048576: true; the input reads as it did. -/
def handleBackUptoRow : OpenClaim := { program := "ytgkmghhplepnnaadoor", sum := "af01479970e5b78f94648d0fccfee3aa928a94acc11cc5b3b27df1fa2ca5f7ba", func := "copyhold/copyholdlaw07.HandleBack", spec := "handleBack", named := ["copyhold/handle.parts"], apart := false, laid := [("copyhold/handle.parts", laid_copyhold_handle_parts)], narrowed := true }
def HandleBackUptoSaid : Prop := handleBackUptoRow.holds Tryd.pinned (OpenSpec.upto handleBackSpec)

end Rows
end Go.Proofs.YtgkmghhplepnnaaDoor
