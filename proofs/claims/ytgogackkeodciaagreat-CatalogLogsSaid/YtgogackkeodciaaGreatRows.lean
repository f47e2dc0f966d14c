/-
  No cell of these rows narrows 'for every input' (looked for: loops, veiled, ifaces, maps, wideKeys, modest, calm, conditions, laid).
  DERIVED. THE GIVEN ROWS OF THIS SEAT. 3 by the template 'for every input the law returns true; each argument reads behind the call as it read before'; 0 by the template 'total and deterministic' (their statements: YtgogackkeodciaaGreatTotals.lean).
  GIVEN WITH THE SEED: the statements are not yours to turn. If you find one false, say at which input.
  Laid BY PROGRAM, IN A SANDBOX (cutbox-rows.mjs): the forced cells as the released guide's own fill.sh prints them over the translation fd04541566f7aea8… (all of the seat's roots in one cut). By AI agents, Wed Nov 11 2026. No macro, syntax, notation, axiom, sorry.
-/
import Derived.Test.YtgogackkeodciaaGreatChecked
import GoSem.Claim
import GoSem.ClaimJoined
import GoSem.ClaimMapViews
import Derived.JoinedTies
import Derived.KernelRfl
namespace Go.Proofs.YtgogackkeodciaaGreat
/- THE CELL 'sum', in the pinned program and in every row, IS THE sha256 OF THE DUMP (.gsa) THAT YtgogackkeodciaaGreatProg.lean LOADS. Nothing in Lean hashes anything: it is a label: what it is worth is what the hold of that sum in a sandbox is worth. -/
noncomputable def Tryz.pinned : Pinned := { name := "ytgogackkeodciaagreat", sum := "fd04541566f7aea82d850af964fabea5153467a43ff119351631a3f8577acc6d", checked := Tryz.checked }
namespace Rows
def none {H : Type} : Left H := { results := [], args := [] }

/-- 'weighlocklaw23.CatalogActs': WHATEVER THE INPUT: true; the input reads as it did. -/
def catalogActsSpec : ChangeSpec := { name := "catalogActs", fn := fun _ => fun
  | [d] => { results := [.lit (.bool true)], args := [d] }
  | _ => none }
def catalogActsRow : OpenClaim := { program := "ytgogackkeodciaagreat", sum := "fd04541566f7aea82d850af964fabea5153467a43ff119351631a3f8577acc6d", func := "weighlock/weighlocklaw23.CatalogActs", spec := "catalogActs", inPlace := ["internal/abi.NoEscape"], unfollowed := true, recurses := true, plainKeys := false, apart := false }
def CatalogActsSaid : Prop := catalogActsRow.holds Tryz.pinned (OpenSpec.ofChange catalogActsSpec)

/-- ITS FALSE NEIGHBOUR: 'it returns false'. Refute it at one input. -/
def catalogActsWrong : ChangeSpec := { name := "catalogActs", fn := fun _ => fun
  | [d] => { results := [.lit (.bool false)], args := [d] }
  | _ => none }
def CatalogActsWrongFalsely : Prop := catalogActsRow.holds Tryz.pinned (OpenSpec.ofChange catalogActsWrong)

/-- 'weighlocklaw23.CatalogLogs': WHATEVER THE INPUT: true; the input reads as it did. -/
def catalogLogsSpec : ChangeSpec := { name := "catalogLogs", fn := fun _ => fun
  | [d] => { results := [.lit (.bool true)], args := [d] }
  | _ => none }
def catalogLogsRow : OpenClaim := { program := "ytgogackkeodciaagreat", sum := "fd04541566f7aea82d850af964fabea5153467a43ff119351631a3f8577acc6d", func := "weighlock/weighlocklaw23.CatalogLogs", spec := "catalogLogs", inPlace := ["internal/abi.NoEscape"], unfollowed := true, recurses := true, plainKeys := false, apart := false }
def CatalogLogsSaid : Prop := catalogLogsRow.holds Tryz.pinned (OpenSpec.ofChange catalogLogsSpec)

/-- ITS FALSE NEIGHBOUR: 'it returns false'. Refute it at one input. -/
def catalogLogsWrong : ChangeSpec := { name := "catalogLogs", fn := fun _ => fun
  | [d] => { results := [.lit (.bool false)], args := [d] }
  | _ => none }
def CatalogLogsWrongFalsely : Prop := catalogLogsRow.holds Tryz.pinned (OpenSpec.ofChange catalogLogsWrong)

/-- 'weighlocklaw23.CatalogSnapshot': WHATEVER THE INPUT: true; the input reads as it did. -/
def catalogSnapshotSpec : ChangeSpec := { name := "catalogSnapshot", fn := fun _ => fun
  | [d] => { results := [.lit (.bool true)], args := [d] }
  | _ => none }
def catalogSnapshotRow : OpenClaim := { program := "ytgogackkeodciaagreat", sum := "fd04541566f7aea82d850af964fabea5153467a43ff119351631a3f8577acc6d", func := "weighlock/weighlocklaw23.CatalogSnapshot", spec := "catalogSnapshot", inPlace := ["internal/abi.NoEscape"], unfollowed := true, recurses := true, plainKeys := false, apart := false }
def CatalogSnapshotSaid : Prop := catalogSnapshotRow.holds Tryz.pinned (OpenSpec.ofChange catalogSnapshotSpec)

/-- ITS FALSE NEIGHBOUR: 'it returns false'. Refute it at one input. -/
def catalogSnapshotWrong : ChangeSpec := { name := "catalogSnapshot", fn := fun _ => fun
  | [d] => { results := [.lit (.bool false)], args := [d] }
  | _ => none }
def CatalogSnapshotWrongFalsely : Prop := catalogSnapshotRow.holds Tryz.pinned (OpenSpec.ofChange catalogSnapshotWrong)

/- THE SECOND FORM. 'bulk': how many values and letters a reading holds, each counted each time it is reached (what is shared counts as often as it is met; a slice's spare places count too). A statement '..UptoSaid' is the law's where the arguments, and the package variables that the reading takes, are together of bulk at most 1048576: NARROWER than '..Said'. Prove '..Said' where nothing that the law and all that it calls make is longer than what came in: it says more and counts as full. Else prove '..UptoSaid'. A law counts once. -/
mutual
def uptoBulk {H : Type} : DataW H → Nat
  | .lit (.string bytes) => bytes.length + 1
  | .lit _ => 1
  | .nil => 1
  | .ptr d => uptoBulk d + 1
  | .slice elems spare => uptoBulkAll elems + uptoBulkAll spare + 1
  | .agg parts => uptoBulkAll parts + 1
  | .iface _ d => uptoBulk d + 1
  | .map entries => uptoBulkEntries entries + 1
  | .held _ => 1
def uptoBulkAll {H : Type} : List (DataW H) → Nat
  | [] => 0
  | d :: r => uptoBulk d + uptoBulkAll r
def uptoBulkEntries {H : Type} : List (Lit × DataW H) → Nat
  | [] => 0
  | x :: r => uptoBulkEntry x + uptoBulkEntries r
def uptoBulkEntry {H : Type} : Lit × DataW H → Nat
  | (.string bytes, d) => bytes.length + uptoBulk d + 1
  | (_, d) => uptoBulk d + 1
 end
def uptoSmall : (H : Type) → List (DataW H) → Bool := fun _ ds => decide (uptoBulkAll ds ≤ 1048576)
def OpenSpec.upto (s : _root_.Go.ChangeSpec) : _root_.Go.OpenSpec := { _root_.Go.OpenSpec.ofChange s with cond := some uptoSmall }

/-- 'weighlocklaw23.CatalogActs', WHERE WHAT IT READS IS OF BULK AT MOST 1048576: true; the input reads as it did. -/
def catalogActsUptoRow : OpenClaim := { program := "ytgogackkeodciaagreat", sum := "fd04541566f7aea82d850af964fabea5153467a43ff119351631a3f8577acc6d", func := "weighlock/weighlocklaw23.CatalogActs", spec := "catalogActs", inPlace := ["internal/abi.NoEscape"], unfollowed := true, recurses := true, plainKeys := false, apart := false, narrowed := true }
def CatalogActsUptoSaid : Prop := catalogActsUptoRow.holds Tryz.pinned (OpenSpec.upto catalogActsSpec)

/-- 'weighlocklaw23.CatalogLogs', WHERE WHAT IT READS IS OF BULK AT MOST 1048576: true; the input reads as it did. -/
def catalogLogsUptoRow : OpenClaim := { program := "ytgogackkeodciaagreat", sum := "fd04541566f7aea82d850af964fabea5153467a43ff119351631a3f8577acc6d", func := "weighlock/weighlocklaw23.CatalogLogs", spec := "catalogLogs", inPlace := ["internal/abi.NoEscape"], unfollowed := true, recurses := true, plainKeys := false, apart := false, narrowed := true }
def CatalogLogsUptoSaid : Prop := catalogLogsUptoRow.holds Tryz.pinned (OpenSpec.upto catalogLogsSpec)

/-- 'weighlocklaw23.CatalogSnapshot', WHERE WHAT IT READS IS OF BULK AT MOST 1048576: true; the input reads as it did. -/
def catalogSnapshotUptoRow : OpenClaim := { program := "ytgogackkeodciaagreat", sum := "fd04541566f7aea82d850af964fabea5153467a43ff119351631a3f8577acc6d", func := "weighlock/weighlocklaw23.CatalogSnapshot", spec := "catalogSnapshot", inPlace := ["internal/abi.NoEscape"], unfollowed := true, recurses := true, plainKeys := false, apart := false, narrowed := true }
def CatalogSnapshotUptoSaid : Prop := catalogSnapshotUptoRow.holds Tryz.pinned (OpenSpec.upto catalogSnapshotSpec)

end Rows
end Go.Proofs.YtgogackkeodciaaGreat
