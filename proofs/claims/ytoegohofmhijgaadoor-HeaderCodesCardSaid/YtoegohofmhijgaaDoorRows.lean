/-
  NARROWER THAN 'FOR EVERY INPUT', by the rows' own cells (each row's printed sentence says how): HeaderCodes: laid · HeaderStamps: laid · HeaderBefore: laid · HeaderChain: laid.
  DERIVED. THE GIVEN ROWS OF THIS SEAT. 4 by the template 'for every input the law returns true; each argument reads behind the call as it read before'; 0 by the template 'total and deterministic' (their statements: YtoegohofmhijgaaDoorTotals.lean).
  GIVEN WITH THE SEED: the statements are not yours to turn. If you find one false, say at which input.
  Laid BY PROGRAM, IN A SANDBOX (cutbox-rows.mjs): the forced cells as the released guide's own fill.sh prints them over the translation 457c093c2fd90e63… (all of the seat's roots in one cut). By AI agents, Wed Nov 11 2026. No macro, syntax, notation, axiom, sorry.
-/
import Derived.Test.YtoegohofmhijgaaDoorChecked
import GoSem.Claim
import GoSem.ClaimJoined
import GoSem.ClaimMapViews
import Derived.JoinedTies
import Derived.KernelRfl
namespace Go.Proofs.YtoegohofmhijgaaDoor
/- THE CELL 'sum', in the pinned program and in every row, IS THE sha256 OF THE DUMP (.gsa) THAT YtoegohofmhijgaaDoorProg.lean LOADS. Nothing in Lean hashes anything: it is a label: what it is worth is what the hold of that sum in a sandbox is worth. -/
noncomputable def Tryd.pinned : Pinned := { name := "ytoegohofmhijgaadoor", sum := "457c093c2fd90e63b34c8d636d7c6674648741b412f5401a03086311e08fa4f6", checked := Tryd.checked }
namespace Rows
def none {H : Type} : Left H := { results := [], args := [] }

/- WHAT THE LISTED PACKAGE-LEVEL VARIABLES READ AS WHEN THE CALL BEGINS. Each datum BY PROGRAM (the guide's laid-datum.mjs) off the statement by which the dump's own 'gosem.cut.vars' lays the variable. In a bare row this is a premise. The card (YtoegohofmhijgaaDoorCards.lean) ties it to the program's text. -/
def laid_weighlock_header_widths {H : Type} : DataW H := .agg [.lit (.int .i64 2), .lit (.int .i64 4), .lit (.int .i64 4), .lit (.int .i64 8)]

/-- 'weighlocklaw11.HeaderCodes': WHATEVER THE INPUT: true; the input reads as it did. -/
def headerCodesSpec : ChangeSpec := { name := "headerCodes", fn := fun _ => fun
  | [d1, d2] => { results := [.lit (.bool true)], args := [d1, d2] }
  | _ => none }
def headerCodesRow : OpenClaim := { program := "ytoegohofmhijgaadoor", sum := "457c093c2fd90e63b34c8d636d7c6674648741b412f5401a03086311e08fa4f6", func := "weighlock/weighlocklaw11.HeaderCodes", spec := "headerCodes", named := ["weighlock/header.widths"], apart := false, laid := [("weighlock/header.widths", laid_weighlock_header_widths)] }
def HeaderCodesSaid : Prop := headerCodesRow.holds Tryd.pinned (OpenSpec.ofChange headerCodesSpec)

/-- ITS FALSE NEIGHBOUR: 'it returns false'. Refute it at one input. -/
def headerCodesWrong : ChangeSpec := { name := "headerCodes", fn := fun _ => fun
  | [d1, d2] => { results := [.lit (.bool false)], args := [d1, d2] }
  | _ => none }
def HeaderCodesWrongFalsely : Prop := headerCodesRow.holds Tryd.pinned (OpenSpec.ofChange headerCodesWrong)

/-- 'weighlocklaw11.HeaderStamps': WHATEVER THE INPUT: true; the input reads as it did. -/
def headerStampsSpec : ChangeSpec := { name := "headerStamps", fn := fun _ => fun
  | [d1, d2, d3] => { results := [.lit (.bool true)], args := [d1, d2, d3] }
  | _ => none }
def headerStampsRow : OpenClaim := { program := "ytoegohofmhijgaadoor", sum := "457c093c2fd90e63b34c8d636d7c6674648741b412f5401a03086311e08fa4f6", func := "weighlock/weighlocklaw11.HeaderStamps", spec := "headerStamps", named := ["weighlock/header.widths"], apart := false, laid := [("weighlock/header.widths", laid_weighlock_header_widths)] }
def HeaderStampsSaid : Prop := headerStampsRow.holds Tryd.pinned (OpenSpec.ofChange headerStampsSpec)

/-- ITS FALSE NEIGHBOUR: 'it returns false'. Refute it at one input. -/
def headerStampsWrong : ChangeSpec := { name := "headerStamps", fn := fun _ => fun
  | [d1, d2, d3] => { results := [.lit (.bool false)], args := [d1, d2, d3] }
  | _ => none }
def HeaderStampsWrongFalsely : Prop := headerStampsRow.holds Tryd.pinned (OpenSpec.ofChange headerStampsWrong)

/-- 'weighlocklaw11.HeaderBefore': WHATEVER THE INPUT: true; the input reads as it did. -/
def headerBeforeSpec : ChangeSpec := { name := "headerBefore", fn := fun _ => fun
  | [d1, d2] => { results := [.lit (.bool true)], args := [d1, d2] }
  | _ => none }
def headerBeforeRow : OpenClaim := { program := "ytoegohofmhijgaadoor", sum := "457c093c2fd90e63b34c8d636d7c6674648741b412f5401a03086311e08fa4f6", func := "weighlock/weighlocklaw11.HeaderBefore", spec := "headerBefore", named := ["weighlock/header.widths"], apart := false, laid := [("weighlock/header.widths", laid_weighlock_header_widths)] }
def HeaderBeforeSaid : Prop := headerBeforeRow.holds Tryd.pinned (OpenSpec.ofChange headerBeforeSpec)

/-- ITS FALSE NEIGHBOUR: 'it returns false'. Refute it at one input. -/
def headerBeforeWrong : ChangeSpec := { name := "headerBefore", fn := fun _ => fun
  | [d1, d2] => { results := [.lit (.bool false)], args := [d1, d2] }
  | _ => none }
def HeaderBeforeWrongFalsely : Prop := headerBeforeRow.holds Tryd.pinned (OpenSpec.ofChange headerBeforeWrong)

/-- 'weighlocklaw11.HeaderChain': WHATEVER THE INPUT: true; the input reads as it did. -/
def headerChainSpec : ChangeSpec := { name := "headerChain", fn := fun _ => fun
  | [d1, d2, d3] => { results := [.lit (.bool true)], args := [d1, d2, d3] }
  | _ => none }
def headerChainRow : OpenClaim := { program := "ytoegohofmhijgaadoor", sum := "457c093c2fd90e63b34c8d636d7c6674648741b412f5401a03086311e08fa4f6", func := "weighlock/weighlocklaw11.HeaderChain", spec := "headerChain", named := ["weighlock/header.widths"], apart := false, laid := [("weighlock/header.widths", laid_weighlock_header_widths)] }
def HeaderChainSaid : Prop := headerChainRow.holds Tryd.pinned (OpenSpec.ofChange headerChainSpec)

/-- ITS FALSE NEIGHBOUR: 'it returns false'. Refute it at one input. -/
def headerChainWrong : ChangeSpec := { name := "headerChain", fn := fun _ => fun
  | [d1, d2, d3] => { results := [.lit (.bool false)], args := [d1, d2, d3] }
  | _ => none }
def HeaderChainWrongFalsely : Prop := headerChainRow.holds Tryd.pinned (OpenSpec.ofChange headerChainWrong)

/- THE SECOND FORM. 'bulk': how many values and letters a reading holds, each counted each time it is reached (what is shared counts as often as it is met; a slice's spare places count too). A statement '..UptoSaid' is the law's where the arguments, and the package variables that the reading takes, are together of bulk at most 1048576: NARROWER than '..Said'. Prove '..Said' where nothing that the law and all that it calls make is longer than what came in: it says more and counts as full. Else prove '..UptoSaid'. A law counts once. -/
mutual
def uptoBulk {H : Type} : DataW H → Nat
  | .lit (.string bytes) => bytes.length + 1
  | .lit _ => 1
  | .nil => 1
  | .ptr d => uptoBulk d + 1
  | .slice elems spare => uptoBulkAll elems + uptoBulkAll spare + 1
  | .agg parts => uptoBulkAll parts + 1
  | .iface _ d => uptoBulk d + 1
  | .map entries => uptoBulkEntries entries + 1
  | .held _ => 1
def uptoBulkAll {H : Type} : List (DataW H) → Nat
  | [] => 0
  | d :: r => uptoBulk d + uptoBulkAll r
def uptoBulkEntries {H : Type} : List (Lit × DataW H) → Nat
  | [] => 0
  | x :: r => uptoBulkEntry x + uptoBulkEntries r
def uptoBulkEntry {H : Type} : Lit × DataW H → Nat
  | (.string bytes, d) => bytes.length + uptoBulk d + 1
  | (_, d) => uptoBulk d + 1
 end
def uptoSmall : (H : Type) → List (DataW H) → Bool := fun _ ds => decide (uptoBulkAll ds ≤ 1048576)
def OpenSpec.upto (s : _root_.Go.ChangeSpec) : _root_.Go.OpenSpec := { _root_.Go.OpenSpec.ofChange s with cond := some uptoSmall }

/-- 'weighlocklaw11.HeaderCodes', WHERE WHAT IT READS IS OF BULK AT MOST 1048576: true; the input reads as it did. -/
def headerCodesUptoRow : OpenClaim := { program := "ytoegohofmhijgaadoor", sum := "457c093c2fd90e63b34c8d636d7c6674648741b412f5401a03086311e08fa4f6", func := "weighlock/weighlocklaw11.HeaderCodes", spec := "headerCodes", named := ["weighlock/header.widths"], apart := false, laid := [("weighlock/header.widths", laid_weighlock_header_widths)], narrowed := true }
def HeaderCodesUptoSaid : Prop := headerCodesUptoRow.holds Tryd.pinned (OpenSpec.upto headerCodesSpec)

/-- 'weighlocklaw11.HeaderStamps', WHERE WHAT IT READS IS OF BULK AT MOST 1048576: true; the input reads as it did. -/
def headerStampsUptoRow : OpenClaim := { program := "ytoegohofmhijgaadoor", sum := "457c093c2fd90e63b34c8d636d7c6674648741b412f5401a03086311e08fa4f6", func := "weighlock/weighlocklaw11.HeaderStamps", spec := "headerStamps", named := ["weighlock/header.widths"], apart := false, laid := [("weighlock/header.widths", laid_weighlock_header_widths)], narrowed := true }
def HeaderStampsUptoSaid : Prop := headerStampsUptoRow.holds Tryd.pinned (OpenSpec.upto headerStampsSpec)

/-- 'weighlocklaw11.HeaderBefore', WHERE WHAT IT READS IS OF BULK AT MOST 1048576: true; the input reads as it did. -/
def headerBeforeUptoRow : OpenClaim := { program := "ytoegohofmhijgaadoor", sum := "457c093c2fd90e63b34c8d636d7c6674648741b412f5401a03086311e08fa4f6", func := "weighlock/weighlocklaw11.HeaderBefore", spec := "headerBefore", named := ["weighlock/header.widths"], apart := false, laid := [("weighlock/header.widths", laid_weighlock_header_widths)], narrowed := true }
def HeaderBeforeUptoSaid : Prop := headerBeforeUptoRow.holds Tryd.pinned (OpenSpec.upto headerBeforeSpec)

/-- 'weighlocklaw11.HeaderChain', WHERE WHAT IT READS IS OF BULK AT MOST 1048576: true; the input reads as it did. -/
def headerChainUptoRow : OpenClaim := { program := "ytoegohofmhijgaadoor", sum := "457c093c2fd90e63b34c8d636d7c6674648741b412f5401a03086311e08fa4f6", func := "weighlock/weighlocklaw11.HeaderChain", spec := "headerChain", named := ["weighlock/header.widths"], apart := false, laid := [("weighlock/header.widths", laid_weighlock_header_widths)], narrowed := true }
def HeaderChainUptoSaid : Prop := headerChainUptoRow.holds Tryd.pinned (OpenSpec.upto headerChainSpec)

end Rows
end Go.Proofs.YtoegohofmhijgaaDoor
