/-
  No cell of these rows narrows 'for every input' (looked for: loops, veiled, ifaces, maps, wideKeys, modest, calm, conditions, laid).
  DERIVED. THE GIVEN ROWS OF THIS SEAT. 3 by the template 'for every input the law returns true; each argument reads behind the call as it read before'; 0 by the template 'total and deterministic' (their statements: YtiidkfcblnkghaaTotals.lean).
  GIVEN WITH THE SEED: the statements are not yours to turn. If you find one false, say at which input.
  Laid BY PROGRAM, IN A SANDBOX (cutbox-rows.mjs): the forced cells as the released guide's own fill.sh prints them over the translation 2e974c99b749e794… (all of the seat's roots in one cut). By AI agents, Wed Nov 11 2026. No macro, syntax, notation, axiom, sorry.
-/
import Derived.Test.YtiidkfcblnkghaaChecked
import GoSem.Claim
import GoSem.ClaimJoined
import GoSem.ClaimMapViews
import Derived.JoinedTies
import Derived.KernelRfl
namespace Go.Proofs.Ytiidkfcblnkghaa
/- THE CELL 'sum', in the pinned program and in every row, IS THE sha256 OF THE DUMP (.gsa) THAT YtiidkfcblnkghaaProg.lean LOADS. Nothing in Lean hashes anything: it is a label: what it is worth is what the hold of that sum in a sandbox is worth. -/
noncomputable def Try.pinned : Pinned := { name := "ytiidkfcblnkghaa", sum := "2e974c99b749e794406f98ac217c6c373236b3db2f46427d0132fadbf5518fd0", checked := Try.checked }
namespace Rows
def none {H : Type} : Left H := { results := [], args := [] }

/-- 'copyholdlaw16.TagsPlays': WHATEVER THE INPUT: true; the input reads as it did. -/
def tagsPlaysSpec : ChangeSpec := { name := "tagsPlays", fn := fun _ => fun
  | [d1, d2, d3] => { results := [.lit (.bool true)], args := [d1, d2, d3] }
  | _ => none }
def tagsPlaysRow : OpenClaim := { program := "ytiidkfcblnkghaa", sum := "2e974c99b749e794406f98ac217c6c373236b3db2f46427d0132fadbf5518fd0", func := "copyhold/copyholdlaw16.TagsPlays", spec := "tagsPlays", apart := false }
def TagsPlaysSaid : Prop := tagsPlaysRow.holds Try.pinned (OpenSpec.ofChange tagsPlaysSpec)

/-- ITS FALSE NEIGHBOUR: 'it returns false'. Refute it at one input. -/
def tagsPlaysWrong : ChangeSpec := { name := "tagsPlays", fn := fun _ => fun
  | [d1, d2, d3] => { results := [.lit (.bool false)], args := [d1, d2, d3] }
  | _ => none }
def TagsPlaysWrongFalsely : Prop := tagsPlaysRow.holds Try.pinned (OpenSpec.ofChange tagsPlaysWrong)

/-- 'copyholdlaw16.TagsEach': WHATEVER THE INPUT: true; the input reads as it did. -/
def tagsEachSpec : ChangeSpec := { name := "tagsEach", fn := fun _ => fun
  | [d] => { results := [.lit (.bool true)], args := [d] }
  | _ => none }
def tagsEachRow : OpenClaim := { program := "ytiidkfcblnkghaa", sum := "2e974c99b749e794406f98ac217c6c373236b3db2f46427d0132fadbf5518fd0", func := "copyhold/copyholdlaw16.TagsEach", spec := "tagsEach", apart := false }
def TagsEachSaid : Prop := tagsEachRow.holds Try.pinned (OpenSpec.ofChange tagsEachSpec)

/-- ITS FALSE NEIGHBOUR: 'it returns false'. Refute it at one input. -/
def tagsEachWrong : ChangeSpec := { name := "tagsEach", fn := fun _ => fun
  | [d] => { results := [.lit (.bool false)], args := [d] }
  | _ => none }
def TagsEachWrongFalsely : Prop := tagsEachRow.holds Try.pinned (OpenSpec.ofChange tagsEachWrong)

/-- 'copyholdlaw16.TagsHands': WHATEVER THE INPUT: true; the input reads as it did. -/
def tagsHandsSpec : ChangeSpec := { name := "tagsHands", fn := fun _ => fun
  | [d1, d2] => { results := [.lit (.bool true)], args := [d1, d2] }
  | _ => none }
def tagsHandsRow : OpenClaim := { program := "ytiidkfcblnkghaa", sum := "2e974c99b749e794406f98ac217c6c373236b3db2f46427d0132fadbf5518fd0", func := "copyhold/copyholdlaw16.TagsHands", spec := "tagsHands", unfollowed := true, recurses := true, apart := false }
def TagsHandsSaid : Prop := tagsHandsRow.holds Try.pinned (OpenSpec.ofChange tagsHandsSpec)

/-- ITS FALSE NEIGHBOUR: 'it returns false'. Refute it at one input. -/
def tagsHandsWrong : ChangeSpec := { name := "tagsHands", fn := fun _ => fun
  | [d1, d2] => { results := [.lit (.bool false)], args := [d1, d2] }
  | _ => none }
def TagsHandsWrongFalsely : Prop := tagsHandsRow.holds Try.pinned (OpenSpec.ofChange tagsHandsWrong)

/- THE SECOND FORM. 'bulk': how many values and letters a reading holds, each counted each time it is reached (what is shared counts as often as it is met; a slice's spare places count too). A statement '..UptoSaid' is the law's where the arguments, and the package variables that the reading takes, are together of bulk at most 1048576: NARROWER than '..Said'. Prove '..Said' where nothing that the law and all that it calls make is longer than what came in: it says more and counts as full. Else prove '..UptoSaid'. A law counts once. -/
mutual
def uptoBulk {H : Type} : DataW H → Nat
  | .lit (.string bytes) => bytes.length + 1
  | .lit _ => 1
  | .nil => 1
  | .ptr d => uptoBulk d + 1
  | .slice elems spare => uptoBulkAll elems + uptoBulkAll spare + 1
  | .agg parts => uptoBulkAll parts + 1
  | .iface _ d => uptoBulk d + 1
  | .map entries => uptoBulkEntries entries + 1
  | .held _ => 1
def uptoBulkAll {H : Type} : List (DataW H) → Nat
  | [] => 0
  | d :: r => uptoBulk d + uptoBulkAll r
def uptoBulkEntries {H : Type} : List (Lit × DataW H) → Nat
  | [] => 0
  | x :: r => uptoBulkEntry x + uptoBulkEntries r
def uptoBulkEntry {H : Type} : Lit × DataW H → Nat
  | (.string bytes, d) => bytes.length + uptoBulk d + 1
  | (_, d) => uptoBulk d + 1
 end
def uptoSmall : (H : Type) → List (DataW H) → Bool := fun _ ds => decide (uptoBulkAll ds ≤ 1048576)
def OpenSpec.upto (s : _root_.Go.ChangeSpec) : _root_.Go.OpenSpec := { _root_.Go.OpenSpec.ofChange s with cond := some uptoSmall }

/-- 'copyholdlaw16.TagsPlays', WHERE WHAT IT READS IS OF BULK AT MOST 1048576: true; the input reads as it did. -/
def tagsPlaysUptoRow : OpenClaim := { program := "ytiidkfcblnkghaa", sum := "2e974c99b749e794406f98ac217c6c373236b3db2f46427d0132fadbf5518fd0", func := "copyhold/copyholdlaw16.TagsPlays", spec := "tagsPlays", apart := false, narrowed := true }
def TagsPlaysUptoSaid : Prop := tagsPlaysUptoRow.holds Try.pinned (OpenSpec.upto tagsPlaysSpec)

/-- 'copyholdlaw16.TagsEach', WHERE WHAT IT READS IS OF BULK AT MOST 1048576: true; the input reads as it did. -/
def tagsEachUptoRow : OpenClaim := { program := "ytiidkfcblnkghaa", sum := "2e974c99b749e794406f98ac217c6c373236b3db2f46427d0132fadbf5518fd0", func := "copyhold/copyholdlaw16.TagsEach", spec := "tagsEach", apart := false, narrowed := true }
def TagsEachUptoSaid : Prop := tagsEachUptoRow.holds Try.pinned (OpenSpec.upto tagsEachSpec)

/-- 'copyholdlaw16.TagsHands', WHERE WHAT IT READS IS OF BULK AT MOST 1048576: true; the input reads as it did. -/
def tagsHandsUptoRow : OpenClaim := { program := "ytiidkfcblnkghaa", sum := "2e974c99b749e794406f98ac217c6c373236b3db2f46427d0132fadbf5518fd0", func := "copyhold/copyholdlaw16.TagsHands", spec := "tagsHands", unfollowed := true, recurses := true, apart := false, narrowed := true }
def TagsHandsUptoSaid : Prop := tagsHandsUptoRow.holds Try.pinned (OpenSpec.upto tagsHandsSpec)

end Rows
end Go.Proofs.Ytiidkfcblnkghaa
