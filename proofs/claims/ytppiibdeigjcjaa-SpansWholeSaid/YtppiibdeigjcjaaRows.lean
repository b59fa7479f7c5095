/-
  No cell of these rows narrows 'for every input' (looked for: loops, veiled, ifaces, maps, wideKeys, modest, calm, conditions, laid).
  DERIVED. THE GIVEN ROWS OF THIS SEAT. 5 by the template 'for every input the law returns true; each argument reads behind the call as it read before'; 0 by the template 'total and deterministic' (their statements: YtppiibdeigjcjaaTotals.lean).
  GIVEN WITH THE SEED: the statements are not yours to turn. If you find one false, say at which input.
  Laid BY PROGRAM, IN A SANDBOX (cutbox-rows.mjs): the forced cells as the released guide's own fill.sh prints them over the translation 3f6fece70b3decb1… (all of the seat's roots in one cut). By AI agents, Wed Nov 11 2026. No macro, syntax, notation, axiom, sorry.
-/
import Derived.Test.YtppiibdeigjcjaaChecked
import GoSem.Claim
import GoSem.ClaimJoined
import GoSem.ClaimMapViews
import Derived.JoinedTies
import Derived.KernelRfl
namespace Go.Proofs.Ytppiibdeigjcjaa
/- THE CELL 'sum', in the pinned program and in every row, IS THE sha256 OF THE DUMP (.gsa) THAT YtppiibdeigjcjaaProg.lean LOADS. Nothing in Lean hashes anything: it is a label: what it is worth is what the hold of that sum in a sandbox is worth. -/
noncomputable def Try.pinned : Pinned := { name := "ytppiibdeigjcjaa", sum := "3f6fece70b3decb1c27c009edf94dbcb3c94e76061b3cebea4249f1f000ef452", checked := Try.checked }
namespace Rows
def none {H : Type} : Left H := { results := [], args := [] }

/-- 'copyholdlaw08.SpansJoins': WHATEVER THE INPUT: true; the input reads as it did. -/
def spansJoinsSpec : ChangeSpec := { name := "spansJoins", fn := fun _ => fun
  | [d1, d2, d3] => { results := [.lit (.bool true)], args := [d1, d2, d3] }
  | _ => none }
def spansJoinsRow : OpenClaim := { program := "ytppiibdeigjcjaa", sum := "3f6fece70b3decb1c27c009edf94dbcb3c94e76061b3cebea4249f1f000ef452", func := "copyhold/copyholdlaw08.SpansJoins", spec := "spansJoins", unfollowed := true, recurses := true, apart := false }
def SpansJoinsSaid : Prop := spansJoinsRow.holds Try.pinned (OpenSpec.ofChange spansJoinsSpec)

/-- ITS FALSE NEIGHBOUR: 'it returns false'. Refute it at one input. -/
def spansJoinsWrong : ChangeSpec := { name := "spansJoins", fn := fun _ => fun
  | [d1, d2, d3] => { results := [.lit (.bool false)], args := [d1, d2, d3] }
  | _ => none }
def SpansJoinsWrongFalsely : Prop := spansJoinsRow.holds Try.pinned (OpenSpec.ofChange spansJoinsWrong)

/-- 'copyholdlaw08.SpansFinds': WHATEVER THE INPUT: true; the input reads as it did. -/
def spansFindsSpec : ChangeSpec := { name := "spansFinds", fn := fun _ => fun
  | [d1, d2, d3] => { results := [.lit (.bool true)], args := [d1, d2, d3] }
  | _ => none }
def spansFindsRow : OpenClaim := { program := "ytppiibdeigjcjaa", sum := "3f6fece70b3decb1c27c009edf94dbcb3c94e76061b3cebea4249f1f000ef452", func := "copyhold/copyholdlaw08.SpansFinds", spec := "spansFinds", unfollowed := true, recurses := true, apart := false }
def SpansFindsSaid : Prop := spansFindsRow.holds Try.pinned (OpenSpec.ofChange spansFindsSpec)

/-- ITS FALSE NEIGHBOUR: 'it returns false'. Refute it at one input. -/
def spansFindsWrong : ChangeSpec := { name := "spansFinds", fn := fun _ => fun
  | [d1, d2, d3] => { results := [.lit (.bool false)], args := [d1, d2, d3] }
  | _ => none }
def SpansFindsWrongFalsely : Prop := spansFindsRow.holds Try.pinned (OpenSpec.ofChange spansFindsWrong)

/-- 'copyholdlaw08.SpansBack': WHATEVER THE INPUT: true; the input reads as it did. -/
def spansBackSpec : ChangeSpec := { name := "spansBack", fn := fun _ => fun
  | [d1, d2, d3] => { results := [.lit (.bool true)], args := [d1, d2, d3] }
  | _ => none }
def spansBackRow : OpenClaim := { program := "ytppiibdeigjcjaa", sum := "3f6fece70b3decb1c27c009edf94dbcb3c94e76061b3cebea4249f1f000ef452", func := "copyhold/copyholdlaw08.SpansBack", spec := "spansBack", unfollowed := true, recurses := true, apart := false }
def SpansBackSaid : Prop := spansBackRow.holds Try.pinned (OpenSpec.ofChange spansBackSpec)

/-- ITS FALSE NEIGHBOUR: 'it returns false'. Refute it at one input. -/
def spansBackWrong : ChangeSpec := { name := "spansBack", fn := fun _ => fun
  | [d1, d2, d3] => { results := [.lit (.bool false)], args := [d1, d2, d3] }
  | _ => none }
def SpansBackWrongFalsely : Prop := spansBackRow.holds Try.pinned (OpenSpec.ofChange spansBackWrong)

/-- 'copyholdlaw08.SpansCuts': WHATEVER THE INPUT: true; the input reads as it did. -/
def spansCutsSpec : ChangeSpec := { name := "spansCuts", fn := fun _ => fun
  | [d1, d2, d3] => { results := [.lit (.bool true)], args := [d1, d2, d3] }
  | _ => none }
def spansCutsRow : OpenClaim := { program := "ytppiibdeigjcjaa", sum := "3f6fece70b3decb1c27c009edf94dbcb3c94e76061b3cebea4249f1f000ef452", func := "copyhold/copyholdlaw08.SpansCuts", spec := "spansCuts", unfollowed := true, recurses := true, apart := false }
def SpansCutsSaid : Prop := spansCutsRow.holds Try.pinned (OpenSpec.ofChange spansCutsSpec)

/-- ITS FALSE NEIGHBOUR: 'it returns false'. Refute it at one input. -/
def spansCutsWrong : ChangeSpec := { name := "spansCuts", fn := fun _ => fun
  | [d1, d2, d3] => { results := [.lit (.bool false)], args := [d1, d2, d3] }
  | _ => none }
def SpansCutsWrongFalsely : Prop := spansCutsRow.holds Try.pinned (OpenSpec.ofChange spansCutsWrong)

/-- 'copyholdlaw08.SpansWhole': WHATEVER THE INPUT: true; the input reads as it did. -/
def spansWholeSpec : ChangeSpec := { name := "spansWhole", fn := fun _ => fun
  | [d1, d2] => { results := [.lit (.bool true)], args := [d1, d2] }
  | _ => none }
def spansWholeRow : OpenClaim := { program := "ytppiibdeigjcjaa", sum := "3f6fece70b3decb1c27c009edf94dbcb3c94e76061b3cebea4249f1f000ef452", func := "copyhold/copyholdlaw08.SpansWhole", spec := "spansWhole", unfollowed := true, recurses := true, apart := false }
def SpansWholeSaid : Prop := spansWholeRow.holds Try.pinned (OpenSpec.ofChange spansWholeSpec)

/-- ITS FALSE NEIGHBOUR: 'it returns false'. Refute it at one input. -/
def spansWholeWrong : ChangeSpec := { name := "spansWhole", fn := fun _ => fun
  | [d1, d2] => { results := [.lit (.bool false)], args := [d1, d2] }
  | _ => none }
def SpansWholeWrongFalsely : Prop := spansWholeRow.holds Try.pinned (OpenSpec.ofChange spansWholeWrong)

/- THE SECOND FORM. 'bulk': how many values and letters a reading holds, each counted each time it is reached (what is shared counts as often as it is met; a slice's spare places count too). A statement '..UptoSaid' is the law's where the arguments, and the package variables that the reading takes, are together of bulk at most 1048576: NARROWER than '..Said'. Prove '..Said' where nothing that the law and all that it calls make is longer than what came in: it says more and counts as full. Else prove '..UptoSaid'. A law counts once. -/
mutual
def uptoBulk {H : Type} : DataW H → Nat
  | .lit (.string bytes) => bytes.length + 1
  | .lit _ => 1
  | .nil => 1
  | .ptr d => uptoBulk d + 1
  | .slice elems spare => uptoBulkAll elems + uptoBulkAll spare + 1
  | .agg parts => uptoBulkAll parts + 1
  | .iface _ d => uptoBulk d + 1
  | .map entries => uptoBulkEntries entries + 1
  | .held _ => 1
def uptoBulkAll {H : Type} : List (DataW H) → Nat
  | [] => 0
  | d :: r => uptoBulk d + uptoBulkAll r
def uptoBulkEntries {H : Type} : List (Lit × DataW H) → Nat
  | [] => 0
  | x :: r => uptoBulkEntry x + uptoBulkEntries r
def uptoBulkEntry {H : Type} : Lit × DataW H → Nat
  | (.string bytes, d) => bytes.length + uptoBulk d + 1
  | (_, d) => uptoBulk d + 1
 end
def uptoSmall : (H : Type) → List (DataW H) → Bool := fun _ ds => decide (uptoBulkAll ds ≤ 1048576)
def OpenSpec.upto (s : _root_.Go.ChangeSpec) : _root_.Go.OpenSpec := { _root_.Go.OpenSpec.ofChange s with cond := some uptoSmall }

/-- 'copyholdlaw08.SpansJoins', WHERE WHAT IT READS IS OF BULK AT MOST 1048576: true; the input reads as it did. -/
def spansJoinsUptoRow : OpenClaim := { program := "ytppiibdeigjcjaa", sum := "3f6fece70b3decb1c27c009edf94dbcb3c94e76061b3cebea4249f1f000ef452", func := "copyhold/copyholdlaw08.SpansJoins", spec := "spansJoins", unfollowed := true, recurses := true, apart := false, narrowed := true }
def SpansJoinsUptoSaid : Prop := spansJoinsUptoRow.holds Try.pinned (OpenSpec.upto spansJoinsSpec)

/-- 'copyholdlaw08.SpansFinds', WHERE WHAT IT READS IS OF BULK AT MOST 1048576: true; the input reads as it did. -/
def spansFindsUptoRow : OpenClaim := { program := "ytppiibdeigjcjaa", sum := "3f6fece70b3decb1c27c009edf94dbcb3c94e76061b3cebea4249f1f000ef452", func := "copyhold/copyholdlaw08.SpansFinds", spec := "spansFinds", unfollowed := true, recurses := true, apart := false, narrowed := true }
def SpansFindsUptoSaid : Prop := spansFindsUptoRow.holds Try.pinned (OpenSpec.upto spansFindsSpec)

/-- 'copyholdlaw08.SpansBack', WHERE WHAT IT READS IS OF BULK AT MOST 1048576: true; the input reads as it did. -/
def spansBackUptoRow : OpenClaim := { program := "ytppiibdeigjcjaa", sum := "3f6fece70b3decb1c27c009edf94dbcb3c94e76061b3cebea4249f1f000ef452", func := "copyhold/copyholdlaw08.SpansBack", spec := "spansBack", unfollowed := true, recurses := true, apart := false, narrowed := true }
def SpansBackUptoSaid : Prop := spansBackUptoRow.holds Try.pinned (OpenSpec.upto spansBackSpec)

/-- 'copyholdlaw08.SpansCuts', WHERE WHAT IT READS IS OF BULK AT MOST 1048576: true; the input reads as it did. -/
def spansCutsUptoRow : OpenClaim := { program := "ytppiibdeigjcjaa", sum := "3f6fece70b3decb1c27c009edf94dbcb3c94e76061b3cebea4249f1f000ef452", func := "copyhold/copyholdlaw08.SpansCuts", spec := "spansCuts", unfollowed := true, recurses := true, apart := false, narrowed := true }
def SpansCutsUptoSaid : Prop := spansCutsUptoRow.holds Try.pinned (OpenSpec.upto spansCutsSpec)

/-- 'copyholdlaw08.SpansWhole', WHERE WHAT IT READS IS OF BULK AT MOST 1048576: true; the input reads as it did. -/
def spansWholeUptoRow : OpenClaim := { program := "ytppiibdeigjcjaa", sum := "3f6fece70b3decb1c27c009edf94dbcb3c94e76061b3cebea4249f1f000ef452", func := "copyhold/copyholdlaw08.SpansWhole", spec := "spansWhole", unfollowed := true, recurses := true, apart := false, narrowed := true }
def SpansWholeUptoSaid : Prop := spansWholeUptoRow.holds Try.pinned (OpenSpec.upto spansWholeSpec)

end Rows
end Go.Proofs.Ytppiibdeigjcjaa
