/-
  NARROWER THAN 'FOR EVERY INPUT', by the rows' own cells (each row's printed sentence says how): SegmentPuts: laid · SegmentLoads: laid · SegmentFalls: laid · SegmentBack: laid · SegmentNil: laid · SeglogNews: laid.
  DERIVED. THE GIVEN ROWS OF THIS SEAT. 6 by the template 'for every input the law returns true; each argument reads behind the call as it read before'; 0 by the template 'total and deterministic' (their statements: YtlgoepbfdldgnaaDoorTotals.lean).
  GIVEN WITH THE SEED: the statements are not yours to turn. If you find one false, say at which input.
  Laid BY PROGRAM, IN A SANDBOX (cutbox-rows.mjs): the forced cells as the released guide's own fill.sh prints them over the translation 4ea0caac314b5364… (all of the seat's roots in one cut). By AI agents, Wed Nov 11 2026. No macro, syntax, notation, axiom, sorry.
-/
import Derived.Test.YtlgoepbfdldgnaaDoorChecked
import GoSem.Claim
import GoSem.ClaimJoined
import GoSem.ClaimMapViews
import Derived.JoinedTies
import Derived.KernelRfl
namespace Go.Proofs.YtlgoepbfdldgnaaDoor
/- THE CELL 'sum', in the pinned program and in every row, IS THE sha256 OF THE DUMP (.gsa) THAT YtlgoepbfdldgnaaDoorProg.lean LOADS. Nothing in Lean hashes anything: it is a label: what it is worth is what the hold of that sum in a sandbox is worth. -/
noncomputable def Tryd.pinned : Pinned := { name := "ytlgoepbfdldgnaadoor", sum := "4ea0caac314b5364fc6247f1ab1cd5a19c0e8f3d5911156dfe5c988c7877eb52", checked := Tryd.checked }
namespace Rows
def none {H : Type} : Left H := { results := [], args := [] }

/- WHAT THE LISTED PACKAGE-LEVEL VARIABLES READ AS WHEN THE CALL BEGINS. Each datum BY PROGRAM (the guide's laid-datum.mjs) off the statement by which the dump's own 'gosem.cut.vars' lays the variable. In a bare row this is a premise. The card (YtlgoepbfdldgnaaDoorCards.lean) ties it to the program's text. -/
def laid_weighlock_header_widths {H : Type} : DataW H := .agg [.lit (.int .i64 2), .lit (.int .i64 4), .lit (.int .i64 4), .lit (.int .i64 8)]

/-- 'weighlocklaw13.SegmentPuts': WHATEVER THE INPUT: true; the input reads as it did. -/
def segmentPutsSpec : ChangeSpec := { name := "segmentPuts", fn := fun _ => fun
  | [d1, d2, d3] => { results := [.lit (.bool true)], args := [d1, d2, d3] }
  | _ => none }
def segmentPutsRow : OpenClaim := { program := "ytlgoepbfdldgnaadoor", sum := "4ea0caac314b5364fc6247f1ab1cd5a19c0e8f3d5911156dfe5c988c7877eb52", func := "weighlock/weighlocklaw13.SegmentPuts", spec := "segmentPuts", recurses := true, named := ["weighlock/header.widths"], apart := false, laid := [("weighlock/header.widths", laid_weighlock_header_widths)] }
def SegmentPutsSaid : Prop := segmentPutsRow.holds Tryd.pinned (OpenSpec.ofChange segmentPutsSpec)

/-- ITS FALSE NEIGHBOUR: 'it returns false'. Refute it at one input. -/
def segmentPutsWrong : ChangeSpec := { name := "segmentPuts", fn := fun _ => fun
  | [d1, d2, d3] => { results := [.lit (.bool false)], args := [d1, d2, d3] }
  | _ => none }
def SegmentPutsWrongFalsely : Prop := segmentPutsRow.holds Tryd.pinned (OpenSpec.ofChange segmentPutsWrong)

/-- 'weighlocklaw13.SegmentLoads': WHATEVER THE INPUT: true; the input reads as it did. -/
def segmentLoadsSpec : ChangeSpec := { name := "segmentLoads", fn := fun _ => fun
  | [d1, d2, d3] => { results := [.lit (.bool true)], args := [d1, d2, d3] }
  | _ => none }
def segmentLoadsRow : OpenClaim := { program := "ytlgoepbfdldgnaadoor", sum := "4ea0caac314b5364fc6247f1ab1cd5a19c0e8f3d5911156dfe5c988c7877eb52", func := "weighlock/weighlocklaw13.SegmentLoads", spec := "segmentLoads", recurses := true, named := ["weighlock/header.widths"], apart := false, laid := [("weighlock/header.widths", laid_weighlock_header_widths)] }
def SegmentLoadsSaid : Prop := segmentLoadsRow.holds Tryd.pinned (OpenSpec.ofChange segmentLoadsSpec)

/-- ITS FALSE NEIGHBOUR: 'it returns false'. Refute it at one input. -/
def segmentLoadsWrong : ChangeSpec := { name := "segmentLoads", fn := fun _ => fun
  | [d1, d2, d3] => { results := [.lit (.bool false)], args := [d1, d2, d3] }
  | _ => none }
def SegmentLoadsWrongFalsely : Prop := segmentLoadsRow.holds Tryd.pinned (OpenSpec.ofChange segmentLoadsWrong)

/-- 'weighlocklaw13.SegmentFalls': WHATEVER THE INPUT: true; the input reads as it did. -/
def segmentFallsSpec : ChangeSpec := { name := "segmentFalls", fn := fun _ => fun
  | [d1, d2, d3] => { results := [.lit (.bool true)], args := [d1, d2, d3] }
  | _ => none }
def segmentFallsRow : OpenClaim := { program := "ytlgoepbfdldgnaadoor", sum := "4ea0caac314b5364fc6247f1ab1cd5a19c0e8f3d5911156dfe5c988c7877eb52", func := "weighlock/weighlocklaw13.SegmentFalls", spec := "segmentFalls", unfollowed := true, recurses := true, named := ["weighlock/header.widths"], apart := false, laid := [("weighlock/header.widths", laid_weighlock_header_widths)] }
def SegmentFallsSaid : Prop := segmentFallsRow.holds Tryd.pinned (OpenSpec.ofChange segmentFallsSpec)

/-- ITS FALSE NEIGHBOUR: 'it returns false'. Refute it at one input. -/
def segmentFallsWrong : ChangeSpec := { name := "segmentFalls", fn := fun _ => fun
  | [d1, d2, d3] => { results := [.lit (.bool false)], args := [d1, d2, d3] }
  | _ => none }
def SegmentFallsWrongFalsely : Prop := segmentFallsRow.holds Tryd.pinned (OpenSpec.ofChange segmentFallsWrong)

/-- 'weighlocklaw13.SegmentBack': WHATEVER THE INPUT: true; the input reads as it did. -/
def segmentBackSpec : ChangeSpec := { name := "segmentBack", fn := fun _ => fun
  | [d1, d2] => { results := [.lit (.bool true)], args := [d1, d2] }
  | _ => none }
def segmentBackRow : OpenClaim := { program := "ytlgoepbfdldgnaadoor", sum := "4ea0caac314b5364fc6247f1ab1cd5a19c0e8f3d5911156dfe5c988c7877eb52", func := "weighlock/weighlocklaw13.SegmentBack", spec := "segmentBack", inPlace := ["internal/abi.NoEscape", "internal/bytealg.MakeNoZero"], named := ["weighlock/header.widths"], apart := false, laid := [("weighlock/header.widths", laid_weighlock_header_widths)] }
def SegmentBackSaid : Prop := segmentBackRow.holds Tryd.pinned (OpenSpec.ofChange segmentBackSpec)

/-- ITS FALSE NEIGHBOUR: 'it returns false'. Refute it at one input. -/
def segmentBackWrong : ChangeSpec := { name := "segmentBack", fn := fun _ => fun
  | [d1, d2] => { results := [.lit (.bool false)], args := [d1, d2] }
  | _ => none }
def SegmentBackWrongFalsely : Prop := segmentBackRow.holds Tryd.pinned (OpenSpec.ofChange segmentBackWrong)

/-- 'weighlocklaw13.SegmentNil': WHATEVER THE INPUT: true; the input reads as it did. -/
def segmentNilSpec : ChangeSpec := { name := "segmentNil", fn := fun _ => fun
  | [d1, d2, d3] => { results := [.lit (.bool true)], args := [d1, d2, d3] }
  | _ => none }
def segmentNilRow : OpenClaim := { program := "ytlgoepbfdldgnaadoor", sum := "4ea0caac314b5364fc6247f1ab1cd5a19c0e8f3d5911156dfe5c988c7877eb52", func := "weighlock/weighlocklaw13.SegmentNil", spec := "segmentNil", inPlace := ["internal/abi.NoEscape", "internal/bytealg.MakeNoZero"], named := ["weighlock/header.widths"], apart := false, laid := [("weighlock/header.widths", laid_weighlock_header_widths)] }
def SegmentNilSaid : Prop := segmentNilRow.holds Tryd.pinned (OpenSpec.ofChange segmentNilSpec)

/-- ITS FALSE NEIGHBOUR: 'it returns false'. Refute it at one input. -/
def segmentNilWrong : ChangeSpec := { name := "segmentNil", fn := fun _ => fun
  | [d1, d2, d3] => { results := [.lit (.bool false)], args := [d1, d2, d3] }
  | _ => none }
def SegmentNilWrongFalsely : Prop := segmentNilRow.holds Tryd.pinned (OpenSpec.ofChange segmentNilWrong)

/-- 'weighlocklaw14.SeglogNews': WHATEVER THE INPUT: true; the input reads as it did. -/
def seglogNewsSpec : ChangeSpec := { name := "seglogNews", fn := fun _ => fun
  | [d1, d2, d3] => { results := [.lit (.bool true)], args := [d1, d2, d3] }
  | _ => none }
def seglogNewsRow : OpenClaim := { program := "ytlgoepbfdldgnaadoor", sum := "4ea0caac314b5364fc6247f1ab1cd5a19c0e8f3d5911156dfe5c988c7877eb52", func := "weighlock/weighlocklaw14.SeglogNews", spec := "seglogNews", unfollowed := true, recurses := true, named := ["weighlock/header.widths"], apart := false, laid := [("weighlock/header.widths", laid_weighlock_header_widths)] }
def SeglogNewsSaid : Prop := seglogNewsRow.holds Tryd.pinned (OpenSpec.ofChange seglogNewsSpec)

/-- ITS FALSE NEIGHBOUR: 'it returns false'. Refute it at one input. -/
def seglogNewsWrong : ChangeSpec := { name := "seglogNews", fn := fun _ => fun
  | [d1, d2, d3] => { results := [.lit (.bool false)], args := [d1, d2, d3] }
  | _ => none }
def SeglogNewsWrongFalsely : Prop := seglogNewsRow.holds Tryd.pinned (OpenSpec.ofChange seglogNewsWrong)

/- THE SECOND FORM. 'bulk': how many values and letters a reading holds, each counted each time it is reached (what is shared counts as often as it is met; a slice's spare places count too). A statement '..UptoSaid' is the law's where the arguments, and the package variables that the reading takes, are together of bulk at most 1048576: NARROWER than '..Said'. Prove '..Said' where nothing that the law and all that it calls make is longer than what came in: it says more and counts as full. Else prove '..UptoSaid'. A law counts once. -/
mutual
def uptoBulk {H : Type} : DataW H → Nat
  | .lit (.string bytes) => bytes.length + 1
  | .lit _ => 1
  | .nil => 1
  | .ptr d => uptoBulk d + 1
  | .slice elems spare => uptoBulkAll elems + uptoBulkAll spare + 1
  | .agg parts => uptoBulkAll parts + 1
  | .iface _ d => uptoBulk d + 1
  | .map entries => uptoBulkEntries entries + 1
  | .held _ => 1
def uptoBulkAll {H : Type} : List (DataW H) → Nat
  | [] => 0
  | d :: r => uptoBulk d + uptoBulkAll r
def uptoBulkEntries {H : Type} : List (Lit × DataW H) → Nat
  | [] => 0
  | x :: r => uptoBulkEntry x + uptoBulkEntries r
def uptoBulkEntry {H : Type} : Lit × DataW H → Nat
  | (.string bytes, d) => bytes.length + uptoBulk d + 1
  | (_, d) => uptoBulk d + 1
 end
def uptoSmall : (H : Type) → List (DataW H) → Bool := fun _ ds => decide (uptoBulkAll ds ≤ 1048576)
def OpenSpec.upto (s : _root_.Go.ChangeSpec) : _root_.Go.OpenSpec := { _root_.Go.OpenSpec.ofChange s with cond := some uptoSmall }

/-- 'weighlocklaw13.SegmentPuts', WHERE WHAT IT READS IS OF BULK AT MOST 1048576: true; the input reads as it did. -/
def segmentPutsUptoRow : OpenClaim := { program := "ytlgoepbfdldgnaadoor", sum := "4ea0caac314b5364fc6247f1ab1cd5a19c0e8f3d5911156dfe5c988c7877eb52", func := "weighlock/weighlocklaw13.SegmentPuts", spec := "segmentPuts", recurses := true, named := ["weighlock/header.widths"], apart := false, laid := [("weighlock/header.widths", laid_weighlock_header_widths)], narrowed := true }
def SegmentPutsUptoSaid : Prop := segmentPutsUptoRow.holds Tryd.pinned (OpenSpec.upto segmentPutsSpec)

/-- 'weighlocklaw13.SegmentLoads', WHERE WHAT IT READS IS OF BULK AT MOST 1048576: true; the input reads as it did. -/
def segmentLoadsUptoRow : OpenClaim := { program := "ytlgoepbfdldgnaadoor", sum := "4ea0caac314b5364fc6247f1ab1cd5a19c0e8f3d5911156dfe5c988c7877eb52", func := "weighlock/weighlocklaw13.SegmentLoads", spec := "segmentLoads", recurses := true, named := ["weighlock/header.widths"], apart := false, laid := [("weighlock/header.widths", laid_weighlock_header_widths)], narrowed := true }
def SegmentLoadsUptoSaid : Prop := segmentLoadsUptoRow.holds Tryd.pinned (OpenSpec.upto segmentLoadsSpec)

/-- 'weighlocklaw13.SegmentFalls', WHERE WHAT IT READS IS OF BULK AT MOST 1048576: true; the input reads as it did. -/
def segmentFallsUptoRow : OpenClaim := { program := "ytlgoepbfdldgnaadoor", sum := "4ea0caac314b5364fc6247f1ab1cd5a19c0e8f3d5911156dfe5c988c7877eb52", func := "weighlock/weighlocklaw13.SegmentFalls", spec := "segmentFalls", unfollowed := true, recurses := true, named := ["weighlock/header.widths"], apart := false, laid := [("weighlock/header.widths", laid_weighlock_header_widths)], narrowed := true }
def SegmentFallsUptoSaid : Prop := segmentFallsUptoRow.holds Tryd.pinned (OpenSpec.upto segmentFallsSpec)

/-- 'weighlocklaw13.SegmentBack', WHERE WHAT IT READS IS OF BULK AT MOST 1048576: true; the input reads as it did. -/
def segmentBackUptoRow : OpenClaim := { program := "ytlgoepbfdldgnaadoor", sum := "4ea0caac314b5364fc6247f1ab1cd5a19c0e8f3d5911156dfe5c988c7877eb52", func := "weighlock/weighlocklaw13.SegmentBack", spec := "segmentBack", inPlace := ["internal/abi.NoEscape", "internal/bytealg.MakeNoZero"], named := ["weighlock/header.widths"], apart := false, laid := [("weighlock/header.widths", laid_weighlock_header_widths)], narrowed := true }
def SegmentBackUptoSaid : Prop := segmentBackUptoRow.holds Tryd.pinned (OpenSpec.upto segmentBackSpec)

/-- 'weighlocklaw13.SegmentNil', WHERE WHAT IT READS IS OF BULK AT MOST 1048576: true; the input reads as it did. -/
def segmentNilUptoRow : OpenClaim := { program := "ytlgoepbfdldgnaadoor", sum := "4ea0caac314b5364fc6247f1ab1cd5a19c0e8f3d5911156dfe5c988c7877eb52", func := "weighlock/weighlocklaw13.SegmentNil", spec := "segmentNil", inPlace := ["internal/abi.NoEscape", "internal/bytealg.MakeNoZero"], named := ["weighlock/header.widths"], apart := false, laid := [("weighlock/header.widths", laid_weighlock_header_widths)], narrowed := true }
def SegmentNilUptoSaid : Prop := segmentNilUptoRow.holds Tryd.pinned (OpenSpec.upto segmentNilSpec)

/-- 'weighlocklaw14.SeglogNews', WHERE WHAT IT READS IS OF BULK AT MOST 1048576: true; the input reads as it did. -/
def seglogNewsUptoRow : OpenClaim := { program := "ytlgoepbfdldgnaadoor", sum := "4ea0caac314b5364fc6247f1ab1cd5a19c0e8f3d5911156dfe5c988c7877eb52", func := "weighlock/weighlocklaw14.SeglogNews", spec := "seglogNews", unfollowed := true, recurses := true, named := ["weighlock/header.widths"], apart := false, laid := [("weighlock/header.widths", laid_weighlock_header_widths)], narrowed := true }
def SeglogNewsUptoSaid : Prop := seglogNewsUptoRow.holds Tryd.pinned (OpenSpec.upto seglogNewsSpec)

end Rows
end Go.Proofs.YtlgoepbfdldgnaaDoor
