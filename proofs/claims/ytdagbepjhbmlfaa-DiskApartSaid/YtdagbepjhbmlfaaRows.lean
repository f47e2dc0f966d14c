/-
  No cell of these rows narrows 'for every input' (looked for: loops, veiled, ifaces, maps, wideKeys, modest, calm, conditions, laid).
  DERIVED. THE GIVEN ROWS OF THIS SEAT. 12 by the template 'for every input the law returns true; each argument reads behind the call as it read before'; 0 by the template 'total and deterministic' (their statements: YtdagbepjhbmlfaaTotals.lean).
  GIVEN WITH THE SEED: the statements are not yours to turn. If you find one false, say at which input.
  Laid BY PROGRAM, IN A SANDBOX (cutbox-rows.mjs): the forced cells as the released guide's own fill.sh prints them over the translation 79bc2170ce521460… (all of the seat's roots in one cut). By AI agents, Wed Nov 11 2026. No macro, syntax, notation, axiom, sorry.
-/
import Derived.Test.YtdagbepjhbmlfaaChecked
import GoSem.Claim
import GoSem.ClaimJoined
import GoSem.ClaimMapViews
import Derived.JoinedTies
import Derived.KernelRfl
namespace Go.Proofs.Ytdagbepjhbmlfaa
/- THE CELL 'sum', in the pinned program and in every row, IS THE sha256 OF THE DUMP (.gsa) THAT YtdagbepjhbmlfaaProg.lean LOADS. Nothing in Lean hashes anything: it is a label: what it is worth is what the hold of that sum in a sandbox is worth. -/
noncomputable def Try.pinned : Pinned := { name := "ytdagbepjhbmlfaa", sum := "79bc2170ce5214602e1d1d054e190cbe178b4957f239266cf7b091ec4f5eec5b", checked := Try.checked }
namespace Rows
def none {H : Type} : Left H := { results := [], args := [] }

/-- 'weighlocklaw03.DiskActs': WHATEVER THE INPUT: true; the input reads as it did. -/
def diskActsSpec : ChangeSpec := { name := "diskActs", fn := fun _ => fun
  | [d1, d2] => { results := [.lit (.bool true)], args := [d1, d2] }
  | _ => none }
def diskActsRow : OpenClaim := { program := "ytdagbepjhbmlfaa", sum := "79bc2170ce5214602e1d1d054e190cbe178b4957f239266cf7b091ec4f5eec5b", func := "weighlock/weighlocklaw03.DiskActs", spec := "diskActs", unfollowed := true, recurses := true, plainKeys := false, apart := false }
def DiskActsSaid : Prop := diskActsRow.holds Try.pinned (OpenSpec.ofChange diskActsSpec)

/-- ITS FALSE NEIGHBOUR: 'it returns false'. Refute it at one input. -/
def diskActsWrong : ChangeSpec := { name := "diskActs", fn := fun _ => fun
  | [d1, d2] => { results := [.lit (.bool false)], args := [d1, d2] }
  | _ => none }
def DiskActsWrongFalsely : Prop := diskActsRow.holds Try.pinned (OpenSpec.ofChange diskActsWrong)

/-- 'weighlocklaw03.DiskApart': WHATEVER THE INPUT: true; the input reads as it did. -/
def diskApartSpec : ChangeSpec := { name := "diskApart", fn := fun _ => fun
  | [d1, d2] => { results := [.lit (.bool true)], args := [d1, d2] }
  | _ => none }
def diskApartRow : OpenClaim := { program := "ytdagbepjhbmlfaa", sum := "79bc2170ce5214602e1d1d054e190cbe178b4957f239266cf7b091ec4f5eec5b", func := "weighlock/weighlocklaw03.DiskApart", spec := "diskApart", unfollowed := true, recurses := true, plainKeys := false, apart := false }
def DiskApartSaid : Prop := diskApartRow.holds Try.pinned (OpenSpec.ofChange diskApartSpec)

/-- ITS FALSE NEIGHBOUR: 'it returns false'. Refute it at one input. -/
def diskApartWrong : ChangeSpec := { name := "diskApart", fn := fun _ => fun
  | [d1, d2] => { results := [.lit (.bool false)], args := [d1, d2] }
  | _ => none }
def DiskApartWrongFalsely : Prop := diskApartRow.holds Try.pinned (OpenSpec.ofChange diskApartWrong)

/-- 'weighlocklaw03.DiskLasts': WHATEVER THE INPUT: true; the input reads as it did. -/
def diskLastsSpec : ChangeSpec := { name := "diskLasts", fn := fun _ => fun
  | [d1, d2] => { results := [.lit (.bool true)], args := [d1, d2] }
  | _ => none }
def diskLastsRow : OpenClaim := { program := "ytdagbepjhbmlfaa", sum := "79bc2170ce5214602e1d1d054e190cbe178b4957f239266cf7b091ec4f5eec5b", func := "weighlock/weighlocklaw03.DiskLasts", spec := "diskLasts", unfollowed := true, recurses := true, plainKeys := false, apart := false }
def DiskLastsSaid : Prop := diskLastsRow.holds Try.pinned (OpenSpec.ofChange diskLastsSpec)

/-- ITS FALSE NEIGHBOUR: 'it returns false'. Refute it at one input. -/
def diskLastsWrong : ChangeSpec := { name := "diskLasts", fn := fun _ => fun
  | [d1, d2] => { results := [.lit (.bool false)], args := [d1, d2] }
  | _ => none }
def DiskLastsWrongFalsely : Prop := diskLastsRow.holds Try.pinned (OpenSpec.ofChange diskLastsWrong)

/-- 'weighlocklaw03.DiskKeeps': WHATEVER THE INPUT: true; the input reads as it did. -/
def diskKeepsSpec : ChangeSpec := { name := "diskKeeps", fn := fun _ => fun
  | [d] => { results := [.lit (.bool true)], args := [d] }
  | _ => none }
def diskKeepsRow : OpenClaim := { program := "ytdagbepjhbmlfaa", sum := "79bc2170ce5214602e1d1d054e190cbe178b4957f239266cf7b091ec4f5eec5b", func := "weighlock/weighlocklaw03.DiskKeeps", spec := "diskKeeps", unfollowed := true, recurses := true, plainKeys := false, apart := false }
def DiskKeepsSaid : Prop := diskKeepsRow.holds Try.pinned (OpenSpec.ofChange diskKeepsSpec)

/-- ITS FALSE NEIGHBOUR: 'it returns false'. Refute it at one input. -/
def diskKeepsWrong : ChangeSpec := { name := "diskKeeps", fn := fun _ => fun
  | [d] => { results := [.lit (.bool false)], args := [d] }
  | _ => none }
def DiskKeepsWrongFalsely : Prop := diskKeepsRow.holds Try.pinned (OpenSpec.ofChange diskKeepsWrong)

/-- 'weighlocklaw05.PolicyNews': WHATEVER THE INPUT: true; the input reads as it did. -/
def policyNewsSpec : ChangeSpec := { name := "policyNews", fn := fun _ => fun
  | [d1, d2, d3] => { results := [.lit (.bool true)], args := [d1, d2, d3] }
  | _ => none }
def policyNewsRow : OpenClaim := { program := "ytdagbepjhbmlfaa", sum := "79bc2170ce5214602e1d1d054e190cbe178b4957f239266cf7b091ec4f5eec5b", func := "weighlock/weighlocklaw05.PolicyNews", spec := "policyNews", unfollowed := true, recurses := true, plainKeys := false, apart := false }
def PolicyNewsSaid : Prop := policyNewsRow.holds Try.pinned (OpenSpec.ofChange policyNewsSpec)

/-- ITS FALSE NEIGHBOUR: 'it returns false'. Refute it at one input. -/
def policyNewsWrong : ChangeSpec := { name := "policyNews", fn := fun _ => fun
  | [d1, d2, d3] => { results := [.lit (.bool false)], args := [d1, d2, d3] }
  | _ => none }
def PolicyNewsWrongFalsely : Prop := policyNewsRow.holds Try.pinned (OpenSpec.ofChange policyNewsWrong)

/-- 'weighlocklaw05.PolicySpends': WHATEVER THE INPUT: true; the input reads as it did. -/
def policySpendsSpec : ChangeSpec := { name := "policySpends", fn := fun _ => fun
  | [d1, d2, d3] => { results := [.lit (.bool true)], args := [d1, d2, d3] }
  | _ => none }
def policySpendsRow : OpenClaim := { program := "ytdagbepjhbmlfaa", sum := "79bc2170ce5214602e1d1d054e190cbe178b4957f239266cf7b091ec4f5eec5b", func := "weighlock/weighlocklaw05.PolicySpends", spec := "policySpends", unfollowed := true, recurses := true, plainKeys := false, apart := false }
def PolicySpendsSaid : Prop := policySpendsRow.holds Try.pinned (OpenSpec.ofChange policySpendsSpec)

/-- ITS FALSE NEIGHBOUR: 'it returns false'. Refute it at one input. -/
def policySpendsWrong : ChangeSpec := { name := "policySpends", fn := fun _ => fun
  | [d1, d2, d3] => { results := [.lit (.bool false)], args := [d1, d2, d3] }
  | _ => none }
def PolicySpendsWrongFalsely : Prop := policySpendsRow.holds Try.pinned (OpenSpec.ofChange policySpendsWrong)

/-- 'weighlocklaw05.PolicyNil': WHATEVER THE INPUT: true; the input reads as it did. -/
def policyNilSpec : ChangeSpec := { name := "policyNil", fn := fun _ => fun
  | [d1, d2] => { results := [.lit (.bool true)], args := [d1, d2] }
  | _ => none }
def policyNilRow : OpenClaim := { program := "ytdagbepjhbmlfaa", sum := "79bc2170ce5214602e1d1d054e190cbe178b4957f239266cf7b091ec4f5eec5b", func := "weighlock/weighlocklaw05.PolicyNil", spec := "policyNil", unfollowed := true, recurses := true, plainKeys := false, apart := false }
def PolicyNilSaid : Prop := policyNilRow.holds Try.pinned (OpenSpec.ofChange policyNilSpec)

/-- ITS FALSE NEIGHBOUR: 'it returns false'. Refute it at one input. -/
def policyNilWrong : ChangeSpec := { name := "policyNil", fn := fun _ => fun
  | [d1, d2] => { results := [.lit (.bool false)], args := [d1, d2] }
  | _ => none }
def PolicyNilWrongFalsely : Prop := policyNilRow.holds Try.pinned (OpenSpec.ofChange policyNilWrong)

/-- 'weighlocklaw05.PolicyWindows': WHATEVER THE INPUT: true; the input reads as it did. -/
def policyWindowsSpec : ChangeSpec := { name := "policyWindows", fn := fun _ => fun
  | [d1, d2, d3] => { results := [.lit (.bool true)], args := [d1, d2, d3] }
  | _ => none }
def policyWindowsRow : OpenClaim := { program := "ytdagbepjhbmlfaa", sum := "79bc2170ce5214602e1d1d054e190cbe178b4957f239266cf7b091ec4f5eec5b", func := "weighlock/weighlocklaw05.PolicyWindows", spec := "policyWindows", unfollowed := true, recurses := true, plainKeys := false, apart := false }
def PolicyWindowsSaid : Prop := policyWindowsRow.holds Try.pinned (OpenSpec.ofChange policyWindowsSpec)

/-- ITS FALSE NEIGHBOUR: 'it returns false'. Refute it at one input. -/
def policyWindowsWrong : ChangeSpec := { name := "policyWindows", fn := fun _ => fun
  | [d1, d2, d3] => { results := [.lit (.bool false)], args := [d1, d2, d3] }
  | _ => none }
def PolicyWindowsWrongFalsely : Prop := policyWindowsRow.holds Try.pinned (OpenSpec.ofChange policyWindowsWrong)

/-- 'weighlocklaw06.LayoutNews': WHATEVER THE INPUT: true; the input reads as it did. -/
def layoutNewsSpec : ChangeSpec := { name := "layoutNews", fn := fun _ => fun
  | [d] => { results := [.lit (.bool true)], args := [d] }
  | _ => none }
def layoutNewsRow : OpenClaim := { program := "ytdagbepjhbmlfaa", sum := "79bc2170ce5214602e1d1d054e190cbe178b4957f239266cf7b091ec4f5eec5b", func := "weighlock/weighlocklaw06.LayoutNews", spec := "layoutNews", plainKeys := false, apart := false }
def LayoutNewsSaid : Prop := layoutNewsRow.holds Try.pinned (OpenSpec.ofChange layoutNewsSpec)

/-- ITS FALSE NEIGHBOUR: 'it returns false'. Refute it at one input. -/
def layoutNewsWrong : ChangeSpec := { name := "layoutNews", fn := fun _ => fun
  | [d] => { results := [.lit (.bool false)], args := [d] }
  | _ => none }
def LayoutNewsWrongFalsely : Prop := layoutNewsRow.holds Try.pinned (OpenSpec.ofChange layoutNewsWrong)

/-- 'weighlocklaw06.LayoutOwners': WHATEVER THE INPUT: true; the input reads as it did. -/
def layoutOwnersSpec : ChangeSpec := { name := "layoutOwners", fn := fun _ => fun
  | [d1, d2, d3] => { results := [.lit (.bool true)], args := [d1, d2, d3] }
  | _ => none }
def layoutOwnersRow : OpenClaim := { program := "ytdagbepjhbmlfaa", sum := "79bc2170ce5214602e1d1d054e190cbe178b4957f239266cf7b091ec4f5eec5b", func := "weighlock/weighlocklaw06.LayoutOwners", spec := "layoutOwners", plainKeys := false, apart := false }
def LayoutOwnersSaid : Prop := layoutOwnersRow.holds Try.pinned (OpenSpec.ofChange layoutOwnersSpec)

/-- ITS FALSE NEIGHBOUR: 'it returns false'. Refute it at one input. -/
def layoutOwnersWrong : ChangeSpec := { name := "layoutOwners", fn := fun _ => fun
  | [d1, d2, d3] => { results := [.lit (.bool false)], args := [d1, d2, d3] }
  | _ => none }
def LayoutOwnersWrongFalsely : Prop := layoutOwnersRow.holds Try.pinned (OpenSpec.ofChange layoutOwnersWrong)

/-- 'weighlocklaw06.LayoutParts': WHATEVER THE INPUT: true; the input reads as it did. -/
def layoutPartsSpec : ChangeSpec := { name := "layoutParts", fn := fun _ => fun
  | [d] => { results := [.lit (.bool true)], args := [d] }
  | _ => none }
def layoutPartsRow : OpenClaim := { program := "ytdagbepjhbmlfaa", sum := "79bc2170ce5214602e1d1d054e190cbe178b4957f239266cf7b091ec4f5eec5b", func := "weighlock/weighlocklaw06.LayoutParts", spec := "layoutParts", plainKeys := false, apart := false }
def LayoutPartsSaid : Prop := layoutPartsRow.holds Try.pinned (OpenSpec.ofChange layoutPartsSpec)

/-- ITS FALSE NEIGHBOUR: 'it returns false'. Refute it at one input. -/
def layoutPartsWrong : ChangeSpec := { name := "layoutParts", fn := fun _ => fun
  | [d] => { results := [.lit (.bool false)], args := [d] }
  | _ => none }
def LayoutPartsWrongFalsely : Prop := layoutPartsRow.holds Try.pinned (OpenSpec.ofChange layoutPartsWrong)

/-- 'weighlocklaw06.LayoutNil': WHATEVER THE INPUT: true; the input reads as it did. -/
def layoutNilSpec : ChangeSpec := { name := "layoutNil", fn := fun _ => fun
  | [d] => { results := [.lit (.bool true)], args := [d] }
  | _ => none }
def layoutNilRow : OpenClaim := { program := "ytdagbepjhbmlfaa", sum := "79bc2170ce5214602e1d1d054e190cbe178b4957f239266cf7b091ec4f5eec5b", func := "weighlock/weighlocklaw06.LayoutNil", spec := "layoutNil", plainKeys := false, apart := false }
def LayoutNilSaid : Prop := layoutNilRow.holds Try.pinned (OpenSpec.ofChange layoutNilSpec)

/-- ITS FALSE NEIGHBOUR: 'it returns false'. Refute it at one input. -/
def layoutNilWrong : ChangeSpec := { name := "layoutNil", fn := fun _ => fun
  | [d] => { results := [.lit (.bool false)], args := [d] }
  | _ => none }
def LayoutNilWrongFalsely : Prop := layoutNilRow.holds Try.pinned (OpenSpec.ofChange layoutNilWrong)

/- THE SECOND FORM. 'bulk': how many values and letters a reading holds, each counted each time it is reached (what is shared counts as often as it is met; a slice's spare places count too). A statement '..UptoSaid' is the law's where the arguments, and the package variables that the reading takes, are together of bulk at most 1048576: NARROWER than '..Said'. Prove '..Said' where nothing that the law and all that it calls make is longer than what came in: it says more and counts as full. Else prove '..UptoSaid'. A law counts once. -/
mutual
def uptoBulk {H : Type} : DataW H → Nat
  | .lit (.string bytes) => bytes.length + 1
  | .lit _ => 1
  | .nil => 1
  | .ptr d => uptoBulk d + 1
  | .slice elems spare => uptoBulkAll elems + uptoBulkAll spare + 1
  | .agg parts => uptoBulkAll parts + 1
  | .iface _ d => uptoBulk d + 1
  | .map entries => uptoBulkEntries entries + 1
  | .held _ => 1
def uptoBulkAll {H : Type} : List (DataW H) → Nat
  | [] => 0
  | d :: r => uptoBulk d + uptoBulkAll r
def uptoBulkEntries {H : Type} : List (Lit × DataW H) → Nat
  | [] => 0
  | x :: r => uptoBulkEntry x + uptoBulkEntries r
def uptoBulkEntry {H : Type} : Lit × DataW H → Nat
  | (.string bytes, d) => bytes.length + uptoBulk d + 1
  | (_, d) => uptoBulk d + 1
 end
def uptoSmall : (H : Type) → List (DataW H) → Bool := fun _ ds => decide (uptoBulkAll ds ≤ 1048576)
def OpenSpec.upto (s : _root_.Go.ChangeSpec) : _root_.Go.OpenSpec := { _root_.Go.OpenSpec.ofChange s with cond := some uptoSmall }

/-- 'weighlocklaw03.DiskActs', WHERE WHAT IT READS IS OF BULK AT MOST 1048576: true; the input reads as it did. -/
def diskActsUptoRow : OpenClaim := { program := "ytdagbepjhbmlfaa", sum := "79bc2170ce5214602e1d1d054e190cbe178b4957f239266cf7b091ec4f5eec5b", func := "weighlock/weighlocklaw03.DiskActs", spec := "diskActs", unfollowed := true, recurses := true, plainKeys := false, apart := false, narrowed := true }
def DiskActsUptoSaid : Prop := diskActsUptoRow.holds Try.pinned (OpenSpec.upto diskActsSpec)

/-- 'weighlocklaw03.DiskApart', WHERE WHAT IT READS IS OF BULK AT MOST 1048576: true; the input reads as it did. -/
def diskApartUptoRow : OpenClaim := { program := "ytdagbepjhbmlfaa", sum := "79bc2170ce5214602e1d1d054e190cbe178b4957f239266cf7b091ec4f5eec5b", func := "weighlock/weighlocklaw03.DiskApart", spec := "diskApart", unfollowed := true, recurses := true, plainKeys := false, apart := false, narrowed := true }
def DiskApartUptoSaid : Prop := diskApartUptoRow.holds Try.pinned (OpenSpec.upto diskApartSpec)

/-- 'weighlocklaw03.DiskLasts', WHERE WHAT IT READS IS OF BULK AT MOST 1048576: true; the input reads as it did. -/
def diskLastsUptoRow : OpenClaim := { program := "ytdagbepjhbmlfaa", sum := "79bc2170ce5214602e1d1d054e190cbe178b4957f239266cf7b091ec4f5eec5b", func := "weighlock/weighlocklaw03.DiskLasts", spec := "diskLasts", unfollowed := true, recurses := true, plainKeys := false, apart := false, narrowed := true }
def DiskLastsUptoSaid : Prop := diskLastsUptoRow.holds Try.pinned (OpenSpec.upto diskLastsSpec)

/-- 'weighlocklaw03.DiskKeeps', WHERE WHAT IT READS IS OF BULK AT MOST 1048576: true; the input reads as it did. -/
def diskKeepsUptoRow : OpenClaim := { program := "ytdagbepjhbmlfaa", sum := "79bc2170ce5214602e1d1d054e190cbe178b4957f239266cf7b091ec4f5eec5b", func := "weighlock/weighlocklaw03.DiskKeeps", spec := "diskKeeps", unfollowed := true, recurses := true, plainKeys := false, apart := false, narrowed := true }
def DiskKeepsUptoSaid : Prop := diskKeepsUptoRow.holds Try.pinned (OpenSpec.upto diskKeepsSpec)

/-- 'weighlocklaw05.PolicyNews', WHERE WHAT IT READS IS OF BULK AT MOST 1048576: true; the input reads as it did. -/
def policyNewsUptoRow : OpenClaim := { program := "ytdagbepjhbmlfaa", sum := "79bc2170ce5214602e1d1d054e190cbe178b4957f239266cf7b091ec4f5eec5b", func := "weighlock/weighlocklaw05.PolicyNews", spec := "policyNews", unfollowed := true, recurses := true, plainKeys := false, apart := false, narrowed := true }
def PolicyNewsUptoSaid : Prop := policyNewsUptoRow.holds Try.pinned (OpenSpec.upto policyNewsSpec)

/-- 'weighlocklaw05.PolicySpends', WHERE WHAT IT READS IS OF BULK AT MOST 1048576: true; the input reads as it did. -/
def policySpendsUptoRow : OpenClaim := { program := "ytdagbepjhbmlfaa", sum := "79bc2170ce5214602e1d1d054e190cbe178b4957f239266cf7b091ec4f5eec5b", func := "weighlock/weighlocklaw05.PolicySpends", spec := "policySpends", unfollowed := true, recurses := true, plainKeys := false, apart := false, narrowed := true }
def PolicySpendsUptoSaid : Prop := policySpendsUptoRow.holds Try.pinned (OpenSpec.upto policySpendsSpec)

/-- 'weighlocklaw05.PolicyNil', WHERE WHAT IT READS IS OF BULK AT MOST 1048576: true; the input reads as it did. -/
def policyNilUptoRow : OpenClaim := { program := "ytdagbepjhbmlfaa", sum := "79bc2170ce5214602e1d1d054e190cbe178b4957f239266cf7b091ec4f5eec5b", func := "weighlock/weighlocklaw05.PolicyNil", spec := "policyNil", unfollowed := true, recurses := true, plainKeys := false, apart := false, narrowed := true }
def PolicyNilUptoSaid : Prop := policyNilUptoRow.holds Try.pinned (OpenSpec.upto policyNilSpec)

/-- 'weighlocklaw05.PolicyWindows', WHERE WHAT IT READS IS OF BULK AT MOST 1048576: true; the input reads as it did. -/
def policyWindowsUptoRow : OpenClaim := { program := "ytdagbepjhbmlfaa", sum := "79bc2170ce5214602e1d1d054e190cbe178b4957f239266cf7b091ec4f5eec5b", func := "weighlock/weighlocklaw05.PolicyWindows", spec := "policyWindows", unfollowed := true, recurses := true, plainKeys := false, apart := false, narrowed := true }
def PolicyWindowsUptoSaid : Prop := policyWindowsUptoRow.holds Try.pinned (OpenSpec.upto policyWindowsSpec)

/-- 'weighlocklaw06.LayoutNews', WHERE WHAT IT READS IS OF BULK AT MOST 1048576: true; the input reads as it did. -/
def layoutNewsUptoRow : OpenClaim := { program := "ytdagbepjhbmlfaa", sum := "79bc2170ce5214602e1d1d054e190cbe178b4957f239266cf7b091ec4f5eec5b", func := "weighlock/weighlocklaw06.LayoutNews", spec := "layoutNews", plainKeys := false, apart := false, narrowed := true }
def LayoutNewsUptoSaid : Prop := layoutNewsUptoRow.holds Try.pinned (OpenSpec.upto layoutNewsSpec)

/-- 'weighlocklaw06.LayoutOwners', WHERE WHAT IT READS IS OF BULK AT MOST 1048576: true; the input reads as it did. -/
def layoutOwnersUptoRow : OpenClaim := { program := "ytdagbepjhbmlfaa", sum := "79bc2170ce5214602e1d1d054e190cbe178b4957f239266cf7b091ec4f5eec5b", func := "weighlock/weighlocklaw06.LayoutOwners", spec := "layoutOwners", plainKeys := false, apart := false, narrowed := true }
def LayoutOwnersUptoSaid : Prop := layoutOwnersUptoRow.holds Try.pinned (OpenSpec.upto layoutOwnersSpec)

/-- 'weighlocklaw06.LayoutParts', WHERE WHAT IT READS IS OF BULK AT MOST 1048576: true; the input reads as it did. -/
def layoutPartsUptoRow : OpenClaim := { program := "ytdagbepjhbmlfaa", sum := "79bc2170ce5214602e1d1d054e190cbe178b4957f239266cf7b091ec4f5eec5b", func := "weighlock/weighlocklaw06.LayoutParts", spec := "layoutParts", plainKeys := false, apart := false, narrowed := true }
def LayoutPartsUptoSaid : Prop := layoutPartsUptoRow.holds Try.pinned (OpenSpec.upto layoutPartsSpec)

/-- 'weighlocklaw06.LayoutNil', WHERE WHAT IT READS IS OF BULK AT MOST 1048576: true; the input reads as it did. -/
def layoutNilUptoRow : OpenClaim := { program := "ytdagbepjhbmlfaa", sum := "79bc2170ce5214602e1d1d054e190cbe178b4957f239266cf7b091ec4f5eec5b", func := "weighlock/weighlocklaw06.LayoutNil", spec := "layoutNil", plainKeys := false, apart := false, narrowed := true }
def LayoutNilUptoSaid : Prop := layoutNilUptoRow.holds Try.pinned (OpenSpec.upto layoutNilSpec)

end Rows
end Go.Proofs.Ytdagbepjhbmlfaa
