/-
  NARROWER THAN 'FOR EVERY INPUT', by the rows' own cells (each row's printed sentence says how): SeglogActs: laid · SeglogAdopts: laid · ScanChains: laid.
  DERIVED. THE GIVEN ROWS OF THIS SEAT. 3 by the template 'for every input the law returns true; each argument reads behind the call as it read before'; 0 by the template 'total and deterministic' (their statements: YtbbhnbdekblghaaGreatDoorTotals.lean).
  GIVEN WITH THE SEED: the statements are not yours to turn. If you find one false, say at which input.
  Laid BY PROGRAM, IN A SANDBOX (cutbox-rows.mjs): the forced cells as the released guide's own fill.sh prints them over the translation 9ecd2f98e4637ad7… (all of the seat's roots in one cut). By AI agents, Wed Nov 11 2026. No macro, syntax, notation, axiom, sorry.
-/
import Derived.Test.YtbbhnbdekblghaaGreatDoorChecked
import GoSem.Claim
import GoSem.ClaimJoined
import GoSem.ClaimMapViews
import Derived.JoinedTies
import Derived.KernelRfl
namespace Go.Proofs.YtbbhnbdekblghaaGreatDoor
/- THE CELL 'sum', in the pinned program and in every row, IS THE sha256 OF THE DUMP (.gsa) THAT YtbbhnbdekblghaaGreatDoorProg.lean LOADS. Nothing in Lean hashes anything: it is a label: what it is worth is what the hold of that sum in a sandbox is worth. -/
noncomputable def Tryz.pinned : Pinned := { name := "ytbbhnbdekblghaagreatdoor", sum := "9ecd2f98e4637ad733e2fc50d34b77bf9e900305da8586ff49a4a3d04dc06ce5", checked := Tryz.checked }
namespace Rows
def none {H : Type} : Left H := { results := [], args := [] }

/- WHAT THE LISTED PACKAGE-LEVEL VARIABLES READ AS WHEN THE CALL BEGINS. Each datum BY PROGRAM (the guide's laid-datum.mjs) off the statement by which the dump's own 'gosem.cut.vars' lays the variable. In a bare row this is a premise. The card (YtbbhnbdekblghaaGreatDoorCards.lean) ties it to the program's text. -/
def laid_weighlock_header_widths {H : Type} : DataW H := .agg [.lit (.int .i64 2), .lit (.int .i64 4), .lit (.int .i64 4), .lit (.int .i64 8)]

/-- 'weighlocklaw14.SeglogActs': WHATEVER THE INPUT: true; the input reads as it did. -/
def seglogActsSpec : ChangeSpec := { name := "seglogActs", fn := fun _ => fun
  | [d] => { results := [.lit (.bool true)], args := [d] }
  | _ => none }
def seglogActsRow : OpenClaim := { program := "ytbbhnbdekblghaagreatdoor", sum := "9ecd2f98e4637ad733e2fc50d34b77bf9e900305da8586ff49a4a3d04dc06ce5", func := "weighlock/weighlocklaw14.SeglogActs", spec := "seglogActs", inPlace := ["internal/abi.NoEscape", "internal/bytealg.MakeNoZero"], unfollowed := true, recurses := true, named := ["weighlock/header.widths"], apart := false, laid := [("weighlock/header.widths", laid_weighlock_header_widths)] }
def SeglogActsSaid : Prop := seglogActsRow.holds Tryz.pinned (OpenSpec.ofChange seglogActsSpec)

/-- ITS FALSE NEIGHBOUR: 'it returns false'. Refute it at one input. -/
def seglogActsWrong : ChangeSpec := { name := "seglogActs", fn := fun _ => fun
  | [d] => { results := [.lit (.bool false)], args := [d] }
  | _ => none }
def SeglogActsWrongFalsely : Prop := seglogActsRow.holds Tryz.pinned (OpenSpec.ofChange seglogActsWrong)

/-- 'weighlocklaw14.SeglogAdopts': WHATEVER THE INPUT: true; the input reads as it did. -/
def seglogAdoptsSpec : ChangeSpec := { name := "seglogAdopts", fn := fun _ => fun
  | [d1, d2] => { results := [.lit (.bool true)], args := [d1, d2] }
  | _ => none }
def seglogAdoptsRow : OpenClaim := { program := "ytbbhnbdekblghaagreatdoor", sum := "9ecd2f98e4637ad733e2fc50d34b77bf9e900305da8586ff49a4a3d04dc06ce5", func := "weighlock/weighlocklaw14.SeglogAdopts", spec := "seglogAdopts", inPlace := ["internal/abi.NoEscape", "internal/bytealg.MakeNoZero"], unfollowed := true, recurses := true, named := ["weighlock/header.widths"], apart := false, laid := [("weighlock/header.widths", laid_weighlock_header_widths)] }
def SeglogAdoptsSaid : Prop := seglogAdoptsRow.holds Tryz.pinned (OpenSpec.ofChange seglogAdoptsSpec)

/-- ITS FALSE NEIGHBOUR: 'it returns false'. Refute it at one input. -/
def seglogAdoptsWrong : ChangeSpec := { name := "seglogAdopts", fn := fun _ => fun
  | [d1, d2] => { results := [.lit (.bool false)], args := [d1, d2] }
  | _ => none }
def SeglogAdoptsWrongFalsely : Prop := seglogAdoptsRow.holds Tryz.pinned (OpenSpec.ofChange seglogAdoptsWrong)

/-- 'weighlocklaw15.ScanChains': WHATEVER THE INPUT: true; the input reads as it did. -/
def scanChainsSpec : ChangeSpec := { name := "scanChains", fn := fun _ => fun
  | [d1, d2] => { results := [.lit (.bool true)], args := [d1, d2] }
  | _ => none }
def scanChainsRow : OpenClaim := { program := "ytbbhnbdekblghaagreatdoor", sum := "9ecd2f98e4637ad733e2fc50d34b77bf9e900305da8586ff49a4a3d04dc06ce5", func := "weighlock/weighlocklaw15.ScanChains", spec := "scanChains", inPlace := ["internal/abi.NoEscape", "internal/bytealg.MakeNoZero"], unfollowed := true, recurses := true, named := ["weighlock/header.widths"], apart := false, laid := [("weighlock/header.widths", laid_weighlock_header_widths)] }
def ScanChainsSaid : Prop := scanChainsRow.holds Tryz.pinned (OpenSpec.ofChange scanChainsSpec)

/-- ITS FALSE NEIGHBOUR: 'it returns false'. Refute it at one input. -/
def scanChainsWrong : ChangeSpec := { name := "scanChains", fn := fun _ => fun
  | [d1, d2] => { results := [.lit (.bool false)], args := [d1, d2] }
  | _ => none }
def ScanChainsWrongFalsely : Prop := scanChainsRow.holds Tryz.pinned (OpenSpec.ofChange scanChainsWrong)

/- THE SECOND FORM. 'bulk': how many values and letters a reading holds, each counted each time it is reached (what is shared counts as often as it is met; a slice's spare places count too). A statement '..UptoSaid' is the law's where the arguments, and the package variables that the reading takes, are together of bulk at most 1048576: NARROWER than '..Said'. Prove '..Said' where nothing that the law and all that it calls make is longer than what came in: it says more and counts as full. Else prove '..UptoSaid'. A law counts once. -/
mutual
def uptoBulk {H : Type} : DataW H → Nat
  | .lit (.string bytes) => bytes.length + 1
  | .lit _ => 1
  | .nil => 1
  | .ptr d => uptoBulk d + 1
  | .slice elems spare => uptoBulkAll elems + uptoBulkAll spare + 1
  | .agg parts => uptoBulkAll parts + 1
  | .iface _ d => uptoBulk d + 1
  | .map entries => uptoBulkEntries entries + 1
  | .held _ => 1
def uptoBulkAll {H : Type} : List (DataW H) → Nat
  | [] => 0
  | d :: r => uptoBulk d + uptoBulkAll r
def uptoBulkEntries {H : Type} : List (Lit × DataW H) → Nat
  | [] => 0
  | x :: r => uptoBulkEntry x + uptoBulkEntries r
def uptoBulkEntry {H : Type} : Lit × DataW H → Nat
  | (.string bytes, d) => bytes.length + uptoBulk d + 1
  | (_, d) => uptoBulk d + 1
 end
def uptoSmall : (H : Type) → List (DataW H) → Bool := fun _ ds => decide (uptoBulkAll ds ≤ 1048576)
def OpenSpec.upto (s : _root_.Go.ChangeSpec) : _root_.Go.OpenSpec := { _root_.Go.OpenSpec.ofChange s with cond := some uptoSmall }

/-- 'weighlocklaw14.SeglogActs', WHERE WHAT IT READS IS OF BULK AT MOST 1048576: true; the input reads as it did. -/
def seglogActsUptoRow : OpenClaim := { program := "ytbbhnbdekblghaagreatdoor", sum := "9ecd2f98e4637ad733e2fc50d34b77bf9e900305da8586ff49a4a3d04dc06ce5", func := "weighlock/weighlocklaw14.SeglogActs", spec := "seglogActs", inPlace := ["internal/abi.NoEscape", "internal/bytealg.MakeNoZero"], unfollowed := true, recurses := true, named := ["weighlock/header.widths"], apart := false, laid := [("weighlock/header.widths", laid_weighlock_header_widths)], narrowed := true }
def SeglogActsUptoSaid : Prop := seglogActsUptoRow.holds Tryz.pinned (OpenSpec.upto seglogActsSpec)

/-- 'weighlocklaw14.SeglogAdopts', WHERE WHAT IT READS IS OF BULK AT MOST 1048576: true; the input reads as it did. -/
def seglogAdoptsUptoRow : OpenClaim := { program := "ytbbhnbdekblghaagreatdoor", sum := "9ecd2f98e4637ad733e2fc50d34b77bf9e900305da8586ff49a4a3d04dc06ce5", func := "weighlock/weighlocklaw14.SeglogAdopts", spec := "seglogAdopts", inPlace := ["internal/abi.NoEscape", "internal/bytealg.MakeNoZero"], unfollowed := true, recurses := true, named := ["weighlock/header.widths"], apart := false, laid := [("weighlock/header.widths", laid_weighlock_header_widths)], narrowed := true }
def SeglogAdoptsUptoSaid : Prop := seglogAdoptsUptoRow.holds Tryz.pinned (OpenSpec.upto seglogAdoptsSpec)

/-- 'weighlocklaw15.ScanChains', WHERE WHAT IT READS IS OF BULK AT MOST 1048576: true; the input reads as it did. -/
def scanChainsUptoRow : OpenClaim := { program := "ytbbhnbdekblghaagreatdoor", sum := "9ecd2f98e4637ad733e2fc50d34b77bf9e900305da8586ff49a4a3d04dc06ce5", func := "weighlock/weighlocklaw15.ScanChains", spec := "scanChains", inPlace := ["internal/abi.NoEscape", "internal/bytealg.MakeNoZero"], unfollowed := true, recurses := true, named := ["weighlock/header.widths"], apart := false, laid := [("weighlock/header.widths", laid_weighlock_header_widths)], narrowed := true }
def ScanChainsUptoSaid : Prop := scanChainsUptoRow.holds Tryz.pinned (OpenSpec.upto scanChainsSpec)

end Rows
end Go.Proofs.YtbbhnbdekblghaaGreatDoor
