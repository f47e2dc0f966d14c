/-
  No cell of these rows narrows 'for every input' (looked for: loops, veiled, ifaces, maps, wideKeys, modest, calm, conditions, laid).
  DERIVED. THE GIVEN ROWS OF THIS SEAT. 5 by the template 'for every input the law returns true; each argument reads behind the call as it read before'; 0 by the template 'total and deterministic' (their statements: YtahljbjgenepaaaTotals.lean).
  GIVEN WITH THE SEED: the statements are not yours to turn. If you find one false, say at which input.
  Laid BY PROGRAM, IN A SANDBOX (cutbox-rows.mjs): the forced cells as the released guide's own fill.sh prints them over the translation 59d6ca8413e9142a… (all of the seat's roots in one cut). By AI agents, Wed Nov 11 2026. No macro, syntax, notation, axiom, sorry.
-/
import Derived.Test.YtahljbjgenepaaaChecked
import GoSem.Claim
import GoSem.ClaimJoined
import GoSem.ClaimMapViews
import Derived.JoinedTies
import Derived.KernelRfl
namespace Go.Proofs.Ytahljbjgenepaaa
/- THE CELL 'sum', in the pinned program and in every row, IS THE sha256 OF THE DUMP (.gsa) THAT YtahljbjgenepaaaProg.lean LOADS. Nothing in Lean hashes anything: it is a label: what it is worth is what the hold of that sum in a sandbox is worth. -/
noncomputable def Try.pinned : Pinned := { name := "ytahljbjgenepaaa", sum := "59d6ca8413e9142a38c5b2e2b2d4e74363813c6a0cc83b695528bd21726773a8", checked := Try.checked }
namespace Rows
def none {H : Type} : Left H := { results := [], args := [] }

/-- 'weighlocklaw19.PartActs': WHATEVER THE INPUT: true; the input reads as it did. -/
def partActsSpec : ChangeSpec := { name := "partActs", fn := fun _ => fun
  | [d] => { results := [.lit (.bool true)], args := [d] }
  | _ => none }
def partActsRow : OpenClaim := { program := "ytahljbjgenepaaa", sum := "59d6ca8413e9142a38c5b2e2b2d4e74363813c6a0cc83b695528bd21726773a8", func := "weighlock/weighlocklaw19.PartActs", spec := "partActs", inPlace := ["internal/abi.NoEscape"], unfollowed := true, recurses := true, apart := false }
def PartActsSaid : Prop := partActsRow.holds Try.pinned (OpenSpec.ofChange partActsSpec)

/-- ITS FALSE NEIGHBOUR: 'it returns false'. Refute it at one input. -/
def partActsWrong : ChangeSpec := { name := "partActs", fn := fun _ => fun
  | [d] => { results := [.lit (.bool false)], args := [d] }
  | _ => none }
def PartActsWrongFalsely : Prop := partActsRow.holds Try.pinned (OpenSpec.ofChange partActsWrong)

/-- 'weighlocklaw19.PartGoes': WHATEVER THE INPUT: true; the input reads as it did. -/
def partGoesSpec : ChangeSpec := { name := "partGoes", fn := fun _ => fun
  | [d1, d2] => { results := [.lit (.bool true)], args := [d1, d2] }
  | _ => none }
def partGoesRow : OpenClaim := { program := "ytahljbjgenepaaa", sum := "59d6ca8413e9142a38c5b2e2b2d4e74363813c6a0cc83b695528bd21726773a8", func := "weighlock/weighlocklaw19.PartGoes", spec := "partGoes", inPlace := ["internal/abi.NoEscape"], unfollowed := true, recurses := true, apart := false }
def PartGoesSaid : Prop := partGoesRow.holds Try.pinned (OpenSpec.ofChange partGoesSpec)

/-- ITS FALSE NEIGHBOUR: 'it returns false'. Refute it at one input. -/
def partGoesWrong : ChangeSpec := { name := "partGoes", fn := fun _ => fun
  | [d1, d2] => { results := [.lit (.bool false)], args := [d1, d2] }
  | _ => none }
def PartGoesWrongFalsely : Prop := partGoesRow.holds Try.pinned (OpenSpec.ofChange partGoesWrong)

/-- 'weighlocklaw19.PartNil': WHATEVER THE INPUT: true; the input reads as it did. -/
def partNilSpec : ChangeSpec := { name := "partNil", fn := fun _ => fun
  | [d] => { results := [.lit (.bool true)], args := [d] }
  | _ => none }
def partNilRow : OpenClaim := { program := "ytahljbjgenepaaa", sum := "59d6ca8413e9142a38c5b2e2b2d4e74363813c6a0cc83b695528bd21726773a8", func := "weighlock/weighlocklaw19.PartNil", spec := "partNil", inPlace := ["internal/abi.NoEscape"], unfollowed := true, recurses := true, apart := false }
def PartNilSaid : Prop := partNilRow.holds Try.pinned (OpenSpec.ofChange partNilSpec)

/-- ITS FALSE NEIGHBOUR: 'it returns false'. Refute it at one input. -/
def partNilWrong : ChangeSpec := { name := "partNil", fn := fun _ => fun
  | [d] => { results := [.lit (.bool false)], args := [d] }
  | _ => none }
def PartNilWrongFalsely : Prop := partNilRow.holds Try.pinned (OpenSpec.ofChange partNilWrong)

/-- 'weighlocklaw19.PartPieces': WHATEVER THE INPUT: true; the input reads as it did. -/
def partPiecesSpec : ChangeSpec := { name := "partPieces", fn := fun _ => fun
  | [d1, d2] => { results := [.lit (.bool true)], args := [d1, d2] }
  | _ => none }
def partPiecesRow : OpenClaim := { program := "ytahljbjgenepaaa", sum := "59d6ca8413e9142a38c5b2e2b2d4e74363813c6a0cc83b695528bd21726773a8", func := "weighlock/weighlocklaw19.PartPieces", spec := "partPieces", inPlace := ["internal/abi.NoEscape"], unfollowed := true, recurses := true, apart := false }
def PartPiecesSaid : Prop := partPiecesRow.holds Try.pinned (OpenSpec.ofChange partPiecesSpec)

/-- ITS FALSE NEIGHBOUR: 'it returns false'. Refute it at one input. -/
def partPiecesWrong : ChangeSpec := { name := "partPieces", fn := fun _ => fun
  | [d1, d2] => { results := [.lit (.bool false)], args := [d1, d2] }
  | _ => none }
def PartPiecesWrongFalsely : Prop := partPiecesRow.holds Try.pinned (OpenSpec.ofChange partPiecesWrong)

/-- 'weighlocklaw20.RetainStays': WHATEVER THE INPUT: true; the input reads as it did. -/
def retainStaysSpec : ChangeSpec := { name := "retainStays", fn := fun _ => fun
  | [d1, d2, d3] => { results := [.lit (.bool true)], args := [d1, d2, d3] }
  | _ => none }
def retainStaysRow : OpenClaim := { program := "ytahljbjgenepaaa", sum := "59d6ca8413e9142a38c5b2e2b2d4e74363813c6a0cc83b695528bd21726773a8", func := "weighlock/weighlocklaw20.RetainStays", spec := "retainStays", inPlace := ["internal/abi.NoEscape"], apart := false }
def RetainStaysSaid : Prop := retainStaysRow.holds Try.pinned (OpenSpec.ofChange retainStaysSpec)

/-- ITS FALSE NEIGHBOUR: 'it returns false'. Refute it at one input. -/
def retainStaysWrong : ChangeSpec := { name := "retainStays", fn := fun _ => fun
  | [d1, d2, d3] => { results := [.lit (.bool false)], args := [d1, d2, d3] }
  | _ => none }
def RetainStaysWrongFalsely : Prop := retainStaysRow.holds Try.pinned (OpenSpec.ofChange retainStaysWrong)

/- THE SECOND FORM. 'bulk': how many values and letters a reading holds, each counted each time it is reached (what is shared counts as often as it is met; a slice's spare places count too). A statement '..UptoSaid' is the law's where the arguments, and the package variables that the reading takes, are together of bulk at most 1048576: NARROWER than '..Said'. Prove '..Said' where nothing that the law and all that it calls make is longer than what came in: it says more and counts as full. Else prove '..UptoSaid'. A law counts once. -/
mutual
def uptoBulk {H : Type} : DataW H → Nat
  | .lit (.string bytes) => bytes.length + 1
  | .lit _ => 1
  | .nil => 1
  | .ptr d => uptoBulk d + 1
  | .slice elems spare => uptoBulkAll elems + uptoBulkAll spare + 1
  | .agg parts => uptoBulkAll parts + 1
  | .iface _ d => uptoBulk d + 1
  | .map entries => uptoBulkEntries entries + 1
  | .held _ => 1
def uptoBulkAll {H : Type} : List (DataW H) → Nat
  | [] => 0
  | d :: r => uptoBulk d + uptoBulkAll r
def uptoBulkEntries {H : Type} : List (Lit × DataW H) → Nat
  | [] => 0
  | x :: r => uptoBulkEntry x + uptoBulkEntries r
def uptoBulkEntry {H : Type} : Lit × DataW H → Nat
  | (.string bytes, d) => bytes.length + uptoBulk d + 1
  | (_, d) => uptoBulk d + 1
 end
def uptoSmall : (H : Type) → List (DataW H) → Bool := fun _ ds => decide (uptoBulkAll ds ≤ 1048576)
def OpenSpec.upto (s : _root_.Go.ChangeSpec) : _root_.Go.OpenSpec := { _root_.Go.OpenSpec.ofChange s with cond := some uptoSmall }

/-- 'weighlocklaw19.PartActs', WHERE WHAT IT READS IS OF BULK AT MOST 1048576: true; the input reads as it did. -/
def partActsUptoRow : OpenClaim := { program := "ytahljbjgenepaaa", sum := "59d6ca8413e9142a38c5b2e2b2d4e74363813c6a0cc83b695528bd21726773a8", func := "weighlock/weighlocklaw19.PartActs", spec := "partActs", inPlace := ["internal/abi.NoEscape"], unfollowed := true, recurses := true, apart := false, narrowed := true }
def PartActsUptoSaid : Prop := partActsUptoRow.holds Try.pinned (OpenSpec.upto partActsSpec)

/-- 'weighlocklaw19.PartGoes', WHERE WHAT IT READS IS OF BULK AT MOST 1048576: true; the input reads as it did. -/
def partGoesUptoRow : OpenClaim := { program := "ytahljbjgenepaaa", sum := "59d6ca8413e9142a38c5b2e2b2d4e74363813c6a0cc83b695528bd21726773a8", func := "weighlock/weighlocklaw19.PartGoes", spec := "partGoes", inPlace := ["internal/abi.NoEscape"], unfollowed := true, recurses := true, apart := false, narrowed := true }
def PartGoesUptoSaid : Prop := partGoesUptoRow.holds Try.pinned (OpenSpec.upto partGoesSpec)

/-- 'weighlocklaw19.PartNil', WHERE WHAT IT READS IS OF BULK AT MOST 1048576: true; the input reads as it did. -/
def partNilUptoRow : OpenClaim := { program := "ytahljbjgenepaaa", sum := "59d6ca8413e9142a38c5b2e2b2d4e74363813c6a0cc83b695528bd21726773a8", func := "weighlock/weighlocklaw19.PartNil", spec := "partNil", inPlace := ["internal/abi.NoEscape"], unfollowed := true, recurses := true, apart := false, narrowed := true }
def PartNilUptoSaid : Prop := partNilUptoRow.holds Try.pinned (OpenSpec.upto partNilSpec)

/-- 'weighlocklaw19.PartPieces', WHERE WHAT IT READS IS OF BULK AT MOST 1048576: true; the input reads as it did. -/
def partPiecesUptoRow : OpenClaim := { program := "ytahljbjgenepaaa", sum := "59d6ca8413e9142a38c5b2e2b2d4e74363813c6a0cc83b695528bd21726773a8", func := "weighlock/weighlocklaw19.PartPieces", spec := "partPieces", inPlace := ["internal/abi.NoEscape"], unfollowed := true, recurses := true, apart := false, narrowed := true }
def PartPiecesUptoSaid : Prop := partPiecesUptoRow.holds Try.pinned (OpenSpec.upto partPiecesSpec)

/-- 'weighlocklaw20.RetainStays', WHERE WHAT IT READS IS OF BULK AT MOST 1048576: true; the input reads as it did. -/
def retainStaysUptoRow : OpenClaim := { program := "ytahljbjgenepaaa", sum := "59d6ca8413e9142a38c5b2e2b2d4e74363813c6a0cc83b695528bd21726773a8", func := "weighlock/weighlocklaw20.RetainStays", spec := "retainStays", inPlace := ["internal/abi.NoEscape"], apart := false, narrowed := true }
def RetainStaysUptoSaid : Prop := retainStaysUptoRow.holds Try.pinned (OpenSpec.upto retainStaysSpec)

end Rows
end Go.Proofs.Ytahljbjgenepaaa
