/-
  No cell of these rows narrows 'for every input' (looked for: loops, veiled, ifaces, maps, wideKeys, modest, calm, conditions, laid).
  DERIVED. THE GIVEN ROWS OF THIS SEAT. 4 by the template 'for every input the law returns true; each argument reads behind the call as it read before'; 0 by the template 'total and deterministic' (their statements: YtcfnnchbnlcppaaTotals.lean).
  GIVEN WITH THE SEED: the statements are not yours to turn. If you find one false, say at which input.
  Laid BY PROGRAM, IN A SANDBOX (cutbox-rows.mjs): the forced cells as the released guide's own fill.sh prints them over the translation 9df8691008b03ddd… (all of the seat's roots in one cut). By AI agents, Wed Nov 11 2026. No macro, syntax, notation, axiom, sorry.
-/
import Derived.Test.YtcfnnchbnlcppaaChecked
import GoSem.Claim
import GoSem.ClaimJoined
import GoSem.ClaimMapViews
import Derived.JoinedTies
import Derived.KernelRfl
namespace Go.Proofs.Ytcfnnchbnlcppaa
/- THE CELL 'sum', in the pinned program and in every row, IS THE sha256 OF THE DUMP (.gsa) THAT YtcfnnchbnlcppaaProg.lean LOADS. Nothing in Lean hashes anything: it is a label: what it is worth is what the hold of that sum in a sandbox is worth. -/
noncomputable def Try.pinned : Pinned := { name := "ytcfnnchbnlcppaa", sum := "9df8691008b03ddd3aec4e766eb9f2857428aede4e9e0c08c77f45f115a9fded", checked := Try.checked }
namespace Rows
def none {H : Type} : Left H := { results := [], args := [] }

/-- 'copyholdlaw10.BytesPlays': WHATEVER THE INPUT: true; the input reads as it did. -/
def bytesPlaysSpec : ChangeSpec := { name := "bytesPlays", fn := fun _ => fun
  | [d1, d2] => { results := [.lit (.bool true)], args := [d1, d2] }
  | _ => none }
def bytesPlaysRow : OpenClaim := { program := "ytcfnnchbnlcppaa", sum := "9df8691008b03ddd3aec4e766eb9f2857428aede4e9e0c08c77f45f115a9fded", func := "copyhold/copyholdlaw10.BytesPlays", spec := "bytesPlays", inPlace := ["internal/abi.NoEscape", "internal/bytealg.MakeNoZero"], unfollowed := true, recurses := true, apart := false }
def BytesPlaysSaid : Prop := bytesPlaysRow.holds Try.pinned (OpenSpec.ofChange bytesPlaysSpec)

/-- ITS FALSE NEIGHBOUR: 'it returns false'. Refute it at one input. -/
def bytesPlaysWrong : ChangeSpec := { name := "bytesPlays", fn := fun _ => fun
  | [d1, d2] => { results := [.lit (.bool false)], args := [d1, d2] }
  | _ => none }
def BytesPlaysWrongFalsely : Prop := bytesPlaysRow.holds Try.pinned (OpenSpec.ofChange bytesPlaysWrong)

/-- 'copyholdlaw10.BytesBack': WHATEVER THE INPUT: true; the input reads as it did. -/
def bytesBackSpec : ChangeSpec := { name := "bytesBack", fn := fun _ => fun
  | [d1, d2, d3] => { results := [.lit (.bool true)], args := [d1, d2, d3] }
  | _ => none }
def bytesBackRow : OpenClaim := { program := "ytcfnnchbnlcppaa", sum := "9df8691008b03ddd3aec4e766eb9f2857428aede4e9e0c08c77f45f115a9fded", func := "copyhold/copyholdlaw10.BytesBack", spec := "bytesBack", inPlace := ["internal/abi.NoEscape", "internal/bytealg.MakeNoZero"], unfollowed := true, recurses := true, apart := false }
def BytesBackSaid : Prop := bytesBackRow.holds Try.pinned (OpenSpec.ofChange bytesBackSpec)

/-- ITS FALSE NEIGHBOUR: 'it returns false'. Refute it at one input. -/
def bytesBackWrong : ChangeSpec := { name := "bytesBack", fn := fun _ => fun
  | [d1, d2, d3] => { results := [.lit (.bool false)], args := [d1, d2, d3] }
  | _ => none }
def BytesBackWrongFalsely : Prop := bytesBackRow.holds Try.pinned (OpenSpec.ofChange bytesBackWrong)

/-- 'copyholdlaw10.BytesHalves': WHATEVER THE INPUT: true; the input reads as it did. -/
def bytesHalvesSpec : ChangeSpec := { name := "bytesHalves", fn := fun _ => fun
  | [d1, d2, d3] => { results := [.lit (.bool true)], args := [d1, d2, d3] }
  | _ => none }
def bytesHalvesRow : OpenClaim := { program := "ytcfnnchbnlcppaa", sum := "9df8691008b03ddd3aec4e766eb9f2857428aede4e9e0c08c77f45f115a9fded", func := "copyhold/copyholdlaw10.BytesHalves", spec := "bytesHalves", inPlace := ["internal/abi.NoEscape", "internal/bytealg.MakeNoZero"], unfollowed := true, recurses := true, apart := false }
def BytesHalvesSaid : Prop := bytesHalvesRow.holds Try.pinned (OpenSpec.ofChange bytesHalvesSpec)

/-- ITS FALSE NEIGHBOUR: 'it returns false'. Refute it at one input. -/
def bytesHalvesWrong : ChangeSpec := { name := "bytesHalves", fn := fun _ => fun
  | [d1, d2, d3] => { results := [.lit (.bool false)], args := [d1, d2, d3] }
  | _ => none }
def BytesHalvesWrongFalsely : Prop := bytesHalvesRow.holds Try.pinned (OpenSpec.ofChange bytesHalvesWrong)

/-- 'copyholdlaw10.BytesCopies': WHATEVER THE INPUT: true; the input reads as it did. -/
def bytesCopiesSpec : ChangeSpec := { name := "bytesCopies", fn := fun _ => fun
  | [d1, d2, d3] => { results := [.lit (.bool true)], args := [d1, d2, d3] }
  | _ => none }
def bytesCopiesRow : OpenClaim := { program := "ytcfnnchbnlcppaa", sum := "9df8691008b03ddd3aec4e766eb9f2857428aede4e9e0c08c77f45f115a9fded", func := "copyhold/copyholdlaw10.BytesCopies", spec := "bytesCopies", inPlace := ["internal/abi.NoEscape", "internal/bytealg.MakeNoZero"], unfollowed := true, recurses := true, apart := false }
def BytesCopiesSaid : Prop := bytesCopiesRow.holds Try.pinned (OpenSpec.ofChange bytesCopiesSpec)

/-- ITS FALSE NEIGHBOUR: 'it returns false'. Refute it at one input. -/
def bytesCopiesWrong : ChangeSpec := { name := "bytesCopies", fn := fun _ => fun
  | [d1, d2, d3] => { results := [.lit (.bool false)], args := [d1, d2, d3] }
  | _ => none }
def BytesCopiesWrongFalsely : Prop := bytesCopiesRow.holds Try.pinned (OpenSpec.ofChange bytesCopiesWrong)

/- THE SECOND FORM. 'bulk': how many values and letters a reading holds, each counted each time it is reached (what is shared counts as often as it is met; a slice's spare places count too). A statement '..UptoSaid' is the law's where the arguments, and the package variables that the reading takes, are together of bulk at most 1048576: NARROWER than '..Said'. Prove '..Said' where nothing that the law and all that it calls make is longer than what came in: it says more and counts as full. Else prove '..UptoSaid'. A law counts once. -/
mutual
def uptoBulk {H : Type} : DataW H → Nat
  | .lit (.string bytes) => bytes.length + 1
  | .lit _ => 1
  | .nil => 1
  | .ptr d => uptoBulk d + 1
  | .slice elems spare => uptoBulkAll elems + uptoBulkAll spare + 1
  | .agg parts => uptoBulkAll parts + 1
  | .iface _ d => uptoBulk d + 1
  | .map entries => uptoBulkEntries entries + 1
  | .held _ => 1
def uptoBulkAll {H : Type} : List (DataW H) → Nat
  | [] => 0
  | d :: r => uptoBulk d + uptoBulkAll r
def uptoBulkEntries {H : Type} : List (Lit × DataW H) → Nat
  | [] => 0
  | x :: r => uptoBulkEntry x + uptoBulkEntries r
def uptoBulkEntry {H : Type} : Lit × DataW H → Nat
  | (.string bytes, d) => bytes.length + uptoBulk d + 1
  | (_, d) => uptoBulk d + 1
 end
def uptoSmall : (H : Type) → List (DataW H) → Bool := fun _ ds => decide (uptoBulkAll ds ≤ 1048576)
def OpenSpec.upto (s : _root_.Go.ChangeSpec) : _root_.Go.OpenSpec := { _root_.Go.OpenSpec.ofChange s with cond := some uptoSmall }

/-- 'copyholdlaw10.BytesPlays', WHERE WHAT IT READS IS OF BULK AT MOST 1048576: true; the input reads as it did. -/
def bytesPlaysUptoRow : OpenClaim := { program := "ytcfnnchbnlcppaa", sum := "9df8691008b03ddd3aec4e766eb9f2857428aede4e9e0c08c77f45f115a9fded", func := "copyhold/copyholdlaw10.BytesPlays", spec := "bytesPlays", inPlace := ["internal/abi.NoEscape", "internal/bytealg.MakeNoZero"], unfollowed := true, recurses := true, apart := false, narrowed := true }
def BytesPlaysUptoSaid : Prop := bytesPlaysUptoRow.holds Try.pinned (OpenSpec.upto bytesPlaysSpec)

/-- 'copyholdlaw10.BytesBack', WHERE WHAT IT READS IS OF BULK AT MOST 1048576: true; the input reads as it did. -/
def bytesBackUptoRow : OpenClaim := { program := "ytcfnnchbnlcppaa", sum := "9df8691008b03ddd3aec4e766eb9f2857428aede4e9e0c08c77f45f115a9fded", func := "copyhold/copyholdlaw10.BytesBack", spec := "bytesBack", inPlace := ["internal/abi.NoEscape", "internal/bytealg.MakeNoZero"], unfollowed := true, recurses := true, apart := false, narrowed := true }
def BytesBackUptoSaid : Prop := bytesBackUptoRow.holds Try.pinned (OpenSpec.upto bytesBackSpec)

/-- 'copyholdlaw10.BytesHalves', WHERE WHAT IT READS IS OF BULK AT MOST 1048576: true; the input reads as it did. -/
def bytesHalvesUptoRow : OpenClaim := { program := "ytcfnnchbnlcppaa", sum := "9df8691008b03ddd3aec4e766eb9f2857428aede4e9e0c08c77f45f115a9fded", func := "copyhold/copyholdlaw10.BytesHalves", spec := "bytesHalves", inPlace := ["internal/abi.NoEscape", "internal/bytealg.MakeNoZero"], unfollowed := true, recurses := true, apart := false, narrowed := true }
def BytesHalvesUptoSaid : Prop := bytesHalvesUptoRow.holds Try.pinned (OpenSpec.upto bytesHalvesSpec)

/-- 'copyholdlaw10.BytesCopies', WHERE WHAT IT READS IS OF BULK AT MOST 1048576: true; the input reads as it did. -/
def bytesCopiesUptoRow : OpenClaim := { program := "ytcfnnchbnlcppaa", sum := "9df8691008b03ddd3aec4e766eb9f2857428aede4e9e0c08c77f45f115a9fded", func := "copyhold/copyholdlaw10.BytesCopies", spec := "bytesCopies", inPlace := ["internal/abi.NoEscape", "internal/bytealg.MakeNoZero"], unfollowed := true, recurses := true, apart := false, narrowed := true }
def BytesCopiesUptoSaid : Prop := bytesCopiesUptoRow.holds Try.pinned (OpenSpec.upto bytesCopiesSpec)

end Rows
end Go.Proofs.Ytcfnnchbnlcppaa
