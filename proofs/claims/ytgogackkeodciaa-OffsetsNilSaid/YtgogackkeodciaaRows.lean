/-
  No cell of these rows narrows 'for every input' (looked for: loops, veiled, ifaces, maps, wideKeys, modest, calm, conditions, laid).
  DERIVED. THE GIVEN ROWS OF THIS SEAT. 5 by the template 'for every input the law returns true; each argument reads behind the call as it read before'; 0 by the template 'total and deterministic' (their statements: YtgogackkeodciaaTotals.lean).
  GIVEN WITH THE SEED: the statements are not yours to turn. If you find one false, say at which input.
  Laid BY PROGRAM, IN A SANDBOX (cutbox-rows.mjs): the forced cells as the released guide's own fill.sh prints them over the translation 9c57061b77bda1d3… (all of the seat's roots in one cut). By AI agents, Wed Nov 11 2026. No macro, syntax, notation, axiom, sorry.
-/
import Derived.Test.YtgogackkeodciaaChecked
import GoSem.Claim
import GoSem.ClaimJoined
import GoSem.ClaimMapViews
import Derived.JoinedTies
import Derived.KernelRfl
namespace Go.Proofs.Ytgogackkeodciaa
/- THE CELL 'sum', in the pinned program and in every row, IS THE sha256 OF THE DUMP (.gsa) THAT YtgogackkeodciaaProg.lean LOADS. Nothing in Lean hashes anything: it is a label: what it is worth is what the hold of that sum in a sandbox is worth. -/
noncomputable def Try.pinned : Pinned := { name := "ytgogackkeodciaa", sum := "9c57061b77bda1d323b5d8959cbcff215e080df2dd61c41c7665209850ce6077", checked := Try.checked }
namespace Rows
def none {H : Type} : Left H := { results := [], args := [] }

/-- 'weighlocklaw24.OffsetsActs': WHATEVER THE INPUT: true; the input reads as it did. -/
def offsetsActsSpec : ChangeSpec := { name := "offsetsActs", fn := fun _ => fun
  | [d1, d2] => { results := [.lit (.bool true)], args := [d1, d2] }
  | _ => none }
def offsetsActsRow : OpenClaim := { program := "ytgogackkeodciaa", sum := "9c57061b77bda1d323b5d8959cbcff215e080df2dd61c41c7665209850ce6077", func := "weighlock/weighlocklaw24.OffsetsActs", spec := "offsetsActs", unfollowed := true, recurses := true, plainKeys := false, apart := false }
def OffsetsActsSaid : Prop := offsetsActsRow.holds Try.pinned (OpenSpec.ofChange offsetsActsSpec)

/-- ITS FALSE NEIGHBOUR: 'it returns false'. Refute it at one input. -/
def offsetsActsWrong : ChangeSpec := { name := "offsetsActs", fn := fun _ => fun
  | [d1, d2] => { results := [.lit (.bool false)], args := [d1, d2] }
  | _ => none }
def OffsetsActsWrongFalsely : Prop := offsetsActsRow.holds Try.pinned (OpenSpec.ofChange offsetsActsWrong)

/-- 'weighlocklaw24.OffsetsApart': WHATEVER THE INPUT: true; the input reads as it did. -/
def offsetsApartSpec : ChangeSpec := { name := "offsetsApart", fn := fun _ => fun
  | [d1, d2, d3] => { results := [.lit (.bool true)], args := [d1, d2, d3] }
  | _ => none }
def offsetsApartRow : OpenClaim := { program := "ytgogackkeodciaa", sum := "9c57061b77bda1d323b5d8959cbcff215e080df2dd61c41c7665209850ce6077", func := "weighlock/weighlocklaw24.OffsetsApart", spec := "offsetsApart", unfollowed := true, recurses := true, plainKeys := false, apart := false }
def OffsetsApartSaid : Prop := offsetsApartRow.holds Try.pinned (OpenSpec.ofChange offsetsApartSpec)

/-- ITS FALSE NEIGHBOUR: 'it returns false'. Refute it at one input. -/
def offsetsApartWrong : ChangeSpec := { name := "offsetsApart", fn := fun _ => fun
  | [d1, d2, d3] => { results := [.lit (.bool false)], args := [d1, d2, d3] }
  | _ => none }
def OffsetsApartWrongFalsely : Prop := offsetsApartRow.holds Try.pinned (OpenSpec.ofChange offsetsApartWrong)

/-- 'weighlocklaw24.OffsetsNil': WHATEVER THE INPUT: true; the input reads as it did. -/
def offsetsNilSpec : ChangeSpec := { name := "offsetsNil", fn := fun _ => fun
  | [d] => { results := [.lit (.bool true)], args := [d] }
  | _ => none }
def offsetsNilRow : OpenClaim := { program := "ytgogackkeodciaa", sum := "9c57061b77bda1d323b5d8959cbcff215e080df2dd61c41c7665209850ce6077", func := "weighlock/weighlocklaw24.OffsetsNil", spec := "offsetsNil", unfollowed := true, recurses := true, plainKeys := false, apart := false }
def OffsetsNilSaid : Prop := offsetsNilRow.holds Try.pinned (OpenSpec.ofChange offsetsNilSpec)

/-- ITS FALSE NEIGHBOUR: 'it returns false'. Refute it at one input. -/
def offsetsNilWrong : ChangeSpec := { name := "offsetsNil", fn := fun _ => fun
  | [d] => { results := [.lit (.bool false)], args := [d] }
  | _ => none }
def OffsetsNilWrongFalsely : Prop := offsetsNilRow.holds Try.pinned (OpenSpec.ofChange offsetsNilWrong)

/-- 'weighlocklaw25.ReleaseDigests': WHATEVER THE INPUT: true; the input reads as it did. -/
def releaseDigestsSpec : ChangeSpec := { name := "releaseDigests", fn := fun _ => fun
  | [d] => { results := [.lit (.bool true)], args := [d] }
  | _ => none }
def releaseDigestsRow : OpenClaim := { program := "ytgogackkeodciaa", sum := "9c57061b77bda1d323b5d8959cbcff215e080df2dd61c41c7665209850ce6077", func := "weighlock/weighlocklaw25.ReleaseDigests", spec := "releaseDigests", inPlace := ["internal/abi.NoEscape", "internal/bytealg.MakeNoZero"], unfollowed := true, recurses := true, plainKeys := false, apart := false }
def ReleaseDigestsSaid : Prop := releaseDigestsRow.holds Try.pinned (OpenSpec.ofChange releaseDigestsSpec)

/-- ITS FALSE NEIGHBOUR: 'it returns false'. Refute it at one input. -/
def releaseDigestsWrong : ChangeSpec := { name := "releaseDigests", fn := fun _ => fun
  | [d] => { results := [.lit (.bool false)], args := [d] }
  | _ => none }
def ReleaseDigestsWrongFalsely : Prop := releaseDigestsRow.holds Try.pinned (OpenSpec.ofChange releaseDigestsWrong)

/-- 'weighlocklaw25.ReleaseNil': WHATEVER THE INPUT: true; the input reads as it did. -/
def releaseNilSpec : ChangeSpec := { name := "releaseNil", fn := fun _ => fun
  | [d] => { results := [.lit (.bool true)], args := [d] }
  | _ => none }
def releaseNilRow : OpenClaim := { program := "ytgogackkeodciaa", sum := "9c57061b77bda1d323b5d8959cbcff215e080df2dd61c41c7665209850ce6077", func := "weighlock/weighlocklaw25.ReleaseNil", spec := "releaseNil", inPlace := ["internal/abi.NoEscape", "internal/bytealg.MakeNoZero"], unfollowed := true, recurses := true, plainKeys := false, apart := false }
def ReleaseNilSaid : Prop := releaseNilRow.holds Try.pinned (OpenSpec.ofChange releaseNilSpec)

/-- ITS FALSE NEIGHBOUR: 'it returns false'. Refute it at one input. -/
def releaseNilWrong : ChangeSpec := { name := "releaseNil", fn := fun _ => fun
  | [d] => { results := [.lit (.bool false)], args := [d] }
  | _ => none }
def ReleaseNilWrongFalsely : Prop := releaseNilRow.holds Try.pinned (OpenSpec.ofChange releaseNilWrong)

/- THE SECOND FORM. 'bulk': how many values and letters a reading holds, each counted each time it is reached (what is shared counts as often as it is met; a slice's spare places count too). A statement '..UptoSaid' is the law's where the arguments, and the package variables that the reading takes, are together of bulk at most 1048576: NARROWER than '..Said'. Prove '..Said' where nothing that the law and all that it calls make is longer than what came in: it says more and counts as full. Else prove '..UptoSaid'. A law counts once. -/
mutual
def uptoBulk {H : Type} : DataW H → Nat
  | .lit (.string bytes) => bytes.length + 1
  | .lit _ => 1
  | .nil => 1
  | .ptr d => uptoBulk d + 1
  | .slice elems spare => uptoBulkAll elems + uptoBulkAll spare + 1
  | .agg parts => uptoBulkAll parts + 1
  | .iface _ d => uptoBulk d + 1
  | .map entries => uptoBulkEntries entries + 1
  | .held _ => 1
def uptoBulkAll {H : Type} : List (DataW H) → Nat
  | [] => 0
  | d :: r => uptoBulk d + uptoBulkAll r
def uptoBulkEntries {H : Type} : List (Lit × DataW H) → Nat
  | [] => 0
  | x :: r => uptoBulkEntry x + uptoBulkEntries r
def uptoBulkEntry {H : Type} : Lit × DataW H → Nat
  | (.string bytes, d) => bytes.length + uptoBulk d + 1
  | (_, d) => uptoBulk d + 1
 end
def uptoSmall : (H : Type) → List (DataW H) → Bool := fun _ ds => decide (uptoBulkAll ds ≤ 1048576)
def OpenSpec.upto (s : _root_.Go.ChangeSpec) : _root_.Go.OpenSpec := { _root_.Go.OpenSpec.ofChange s with cond := some uptoSmall }

/-- 'weighlocklaw24.OffsetsActs', WHERE WHAT IT READS IS OF BULK AT MOST 1048576: true; the input reads as it did. -/
def offsetsActsUptoRow : OpenClaim := { program := "ytgogackkeodciaa", sum := "9c57061b77bda1d323b5d8959cbcff215e080df2dd61c41c7665209850ce6077", func := "weighlock/weighlocklaw24.OffsetsActs", spec := "offsetsActs", unfollowed := true, recurses := true, plainKeys := false, apart := false, narrowed := true }
def OffsetsActsUptoSaid : Prop := offsetsActsUptoRow.holds Try.pinned (OpenSpec.upto offsetsActsSpec)

/-- 'weighlocklaw24.OffsetsApart', WHERE WHAT IT READS IS OF BULK AT MOST 1048576: true; the input reads as it did. -/
def offsetsApartUptoRow : OpenClaim := { program := "ytgogackkeodciaa", sum := "9c57061b77bda1d323b5d8959cbcff215e080df2dd61c41c7665209850ce6077", func := "weighlock/weighlocklaw24.OffsetsApart", spec := "offsetsApart", unfollowed := true, recurses := true, plainKeys := false, apart := false, narrowed := true }
def OffsetsApartUptoSaid : Prop := offsetsApartUptoRow.holds Try.pinned (OpenSpec.upto offsetsApartSpec)

/-- 'weighlocklaw24.OffsetsNil', WHERE WHAT IT READS IS OF BULK AT MOST 1048576: true; the input reads as it did. -/
def offsetsNilUptoRow : OpenClaim := { program := "ytgogackkeodciaa", sum := "9c57061b77bda1d323b5d8959cbcff215e080df2dd61c41c7665209850ce6077", func := "weighlock/weighlocklaw24.OffsetsNil", spec := "offsetsNil", unfollowed := true, recurses := true, plainKeys := false, apart := false, narrowed := true }
def OffsetsNilUptoSaid : Prop := offsetsNilUptoRow.holds Try.pinned (OpenSpec.upto offsetsNilSpec)

/-- 'weighlocklaw25.ReleaseDigests', WHERE WHAT IT READS IS OF BULK AT MOST 1048576: true; the input reads as it did. -/
def releaseDigestsUptoRow : OpenClaim := { program := "ytgogackkeodciaa", sum := "9c57061b77bda1d323b5d8959cbcff215e080df2dd61c41c7665209850ce6077", func := "weighlock/weighlocklaw25.ReleaseDigests", spec := "releaseDigests", inPlace := ["internal/abi.NoEscape", "internal/bytealg.MakeNoZero"], unfollowed := true, recurses := true, plainKeys := false, apart := false, narrowed := true }
def ReleaseDigestsUptoSaid : Prop := releaseDigestsUptoRow.holds Try.pinned (OpenSpec.upto releaseDigestsSpec)

/-- 'weighlocklaw25.ReleaseNil', WHERE WHAT IT READS IS OF BULK AT MOST 1048576: true; the input reads as it did. -/
def releaseNilUptoRow : OpenClaim := { program := "ytgogackkeodciaa", sum := "9c57061b77bda1d323b5d8959cbcff215e080df2dd61c41c7665209850ce6077", func := "weighlock/weighlocklaw25.ReleaseNil", spec := "releaseNil", inPlace := ["internal/abi.NoEscape", "internal/bytealg.MakeNoZero"], unfollowed := true, recurses := true, plainKeys := false, apart := false, narrowed := true }
def ReleaseNilUptoSaid : Prop := releaseNilUptoRow.holds Try.pinned (OpenSpec.upto releaseNilSpec)

end Rows
end Go.Proofs.Ytgogackkeodciaa
