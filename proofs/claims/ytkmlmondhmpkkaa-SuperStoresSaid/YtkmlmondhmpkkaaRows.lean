/-
  No cell of these rows narrows 'for every input' (looked for: loops, veiled, ifaces, maps, wideKeys, modest, calm, conditions, laid).
  DERIVED. THE GIVEN ROWS OF THIS SEAT. 6 by the template 'for every input the law returns true; each argument reads behind the call as it read before'; 0 by the template 'total and deterministic' (their statements: YtkmlmondhmpkkaaTotals.lean).
  GIVEN WITH THE SEED: the statements are not yours to turn. If you find one false, say at which input.
  Laid BY PROGRAM, IN A SANDBOX (cutbox-rows.mjs): the forced cells as the released guide's own fill.sh prints them over the translation 8c58dbf7e6a9ac1f… (all of the seat's roots in one cut). By AI agents, Wed Nov 11 2026. No macro, syntax, notation, axiom, sorry.
-/
import Derived.Test.YtkmlmondhmpkkaaChecked
import GoSem.Claim
import GoSem.ClaimJoined
import GoSem.ClaimMapViews
import Derived.JoinedTies
import Derived.KernelRfl
namespace Go.Proofs.Ytkmlmondhmpkkaa
/- THE CELL 'sum', in the pinned program and in every row, IS THE sha256 OF THE DUMP (.gsa) THAT YtkmlmondhmpkkaaProg.lean LOADS. Nothing in Lean hashes anything: it is a label: what it is worth is what the hold of that sum in a sandbox is worth. -/
noncomputable def Try.pinned : Pinned := { name := "ytkmlmondhmpkkaa", sum := "8c58dbf7e6a9ac1f3ec840642259304b91bed60b7870481e7925405dba892a87", checked := Try.checked }
namespace Rows
def none {H : Type} : Left H := { results := [], args := [] }

/-- 'weighlocklaw09.SealCodes': WHATEVER THE INPUT: true; the input reads as it did. -/
def sealCodesSpec : ChangeSpec := { name := "sealCodes", fn := fun _ => fun
  | [d1, d2, d3] => { results := [.lit (.bool true)], args := [d1, d2, d3] }
  | _ => none }
def sealCodesRow : OpenClaim := { program := "ytkmlmondhmpkkaa", sum := "8c58dbf7e6a9ac1f3ec840642259304b91bed60b7870481e7925405dba892a87", func := "weighlock/weighlocklaw09.SealCodes", spec := "sealCodes", apart := false }
def SealCodesSaid : Prop := sealCodesRow.holds Try.pinned (OpenSpec.ofChange sealCodesSpec)

/-- ITS FALSE NEIGHBOUR: 'it returns false'. Refute it at one input. -/
def sealCodesWrong : ChangeSpec := { name := "sealCodes", fn := fun _ => fun
  | [d1, d2, d3] => { results := [.lit (.bool false)], args := [d1, d2, d3] }
  | _ => none }
def SealCodesWrongFalsely : Prop := sealCodesRow.holds Try.pinned (OpenSpec.ofChange sealCodesWrong)

/-- 'weighlocklaw09.SealTorn': WHATEVER THE INPUT: true; the input reads as it did. -/
def sealTornSpec : ChangeSpec := { name := "sealTorn", fn := fun _ => fun
  | [d1, d2, d3] => { results := [.lit (.bool true)], args := [d1, d2, d3] }
  | _ => none }
def sealTornRow : OpenClaim := { program := "ytkmlmondhmpkkaa", sum := "8c58dbf7e6a9ac1f3ec840642259304b91bed60b7870481e7925405dba892a87", func := "weighlock/weighlocklaw09.SealTorn", spec := "sealTorn", apart := false }
def SealTornSaid : Prop := sealTornRow.holds Try.pinned (OpenSpec.ofChange sealTornSpec)

/-- ITS FALSE NEIGHBOUR: 'it returns false'. Refute it at one input. -/
def sealTornWrong : ChangeSpec := { name := "sealTorn", fn := fun _ => fun
  | [d1, d2, d3] => { results := [.lit (.bool false)], args := [d1, d2, d3] }
  | _ => none }
def SealTornWrongFalsely : Prop := sealTornRow.holds Try.pinned (OpenSpec.ofChange sealTornWrong)

/-- 'weighlocklaw10.SuperCodes': WHATEVER THE INPUT: true; the input reads as it did. -/
def superCodesSpec : ChangeSpec := { name := "superCodes", fn := fun _ => fun
  | [d1, d2] => { results := [.lit (.bool true)], args := [d1, d2] }
  | _ => none }
def superCodesRow : OpenClaim := { program := "ytkmlmondhmpkkaa", sum := "8c58dbf7e6a9ac1f3ec840642259304b91bed60b7870481e7925405dba892a87", func := "weighlock/weighlocklaw10.SuperCodes", spec := "superCodes", apart := false }
def SuperCodesSaid : Prop := superCodesRow.holds Try.pinned (OpenSpec.ofChange superCodesSpec)

/-- ITS FALSE NEIGHBOUR: 'it returns false'. Refute it at one input. -/
def superCodesWrong : ChangeSpec := { name := "superCodes", fn := fun _ => fun
  | [d1, d2] => { results := [.lit (.bool false)], args := [d1, d2] }
  | _ => none }
def SuperCodesWrongFalsely : Prop := superCodesRow.holds Try.pinned (OpenSpec.ofChange superCodesWrong)

/-- 'weighlocklaw10.SuperPicks': WHATEVER THE INPUT: true; the input reads as it did. -/
def superPicksSpec : ChangeSpec := { name := "superPicks", fn := fun _ => fun
  | [d1, d2] => { results := [.lit (.bool true)], args := [d1, d2] }
  | _ => none }
def superPicksRow : OpenClaim := { program := "ytkmlmondhmpkkaa", sum := "8c58dbf7e6a9ac1f3ec840642259304b91bed60b7870481e7925405dba892a87", func := "weighlock/weighlocklaw10.SuperPicks", spec := "superPicks", apart := false }
def SuperPicksSaid : Prop := superPicksRow.holds Try.pinned (OpenSpec.ofChange superPicksSpec)

/-- ITS FALSE NEIGHBOUR: 'it returns false'. Refute it at one input. -/
def superPicksWrong : ChangeSpec := { name := "superPicks", fn := fun _ => fun
  | [d1, d2] => { results := [.lit (.bool false)], args := [d1, d2] }
  | _ => none }
def SuperPicksWrongFalsely : Prop := superPicksRow.holds Try.pinned (OpenSpec.ofChange superPicksWrong)

/-- 'weighlocklaw10.SuperStores': WHATEVER THE INPUT: true; the input reads as it did. -/
def superStoresSpec : ChangeSpec := { name := "superStores", fn := fun _ => fun
  | [d1, d2, d3] => { results := [.lit (.bool true)], args := [d1, d2, d3] }
  | _ => none }
def superStoresRow : OpenClaim := { program := "ytkmlmondhmpkkaa", sum := "8c58dbf7e6a9ac1f3ec840642259304b91bed60b7870481e7925405dba892a87", func := "weighlock/weighlocklaw10.SuperStores", spec := "superStores", unfollowed := true, recurses := true, apart := false }
def SuperStoresSaid : Prop := superStoresRow.holds Try.pinned (OpenSpec.ofChange superStoresSpec)

/-- ITS FALSE NEIGHBOUR: 'it returns false'. Refute it at one input. -/
def superStoresWrong : ChangeSpec := { name := "superStores", fn := fun _ => fun
  | [d1, d2, d3] => { results := [.lit (.bool false)], args := [d1, d2, d3] }
  | _ => none }
def SuperStoresWrongFalsely : Prop := superStoresRow.holds Try.pinned (OpenSpec.ofChange superStoresWrong)

/-- 'weighlocklaw10.SuperLoads': WHATEVER THE INPUT: true; the input reads as it did. -/
def superLoadsSpec : ChangeSpec := { name := "superLoads", fn := fun _ => fun
  | [d1, d2, d3] => { results := [.lit (.bool true)], args := [d1, d2, d3] }
  | _ => none }
def superLoadsRow : OpenClaim := { program := "ytkmlmondhmpkkaa", sum := "8c58dbf7e6a9ac1f3ec840642259304b91bed60b7870481e7925405dba892a87", func := "weighlock/weighlocklaw10.SuperLoads", spec := "superLoads", unfollowed := true, recurses := true, apart := false }
def SuperLoadsSaid : Prop := superLoadsRow.holds Try.pinned (OpenSpec.ofChange superLoadsSpec)

/-- ITS FALSE NEIGHBOUR: 'it returns false'. Refute it at one input. -/
def superLoadsWrong : ChangeSpec := { name := "superLoads", fn := fun _ => fun
  | [d1, d2, d3] => { results := [.lit (.bool false)], args := [d1, d2, d3] }
  | _ => none }
def SuperLoadsWrongFalsely : Prop := superLoadsRow.holds Try.pinned (OpenSpec.ofChange superLoadsWrong)

/- THE SECOND FORM. 'bulk': how many values and letters a reading holds, each counted each time it is reached (what is shared counts as often as it is met; a slice's spare places count too). A statement '..UptoSaid' is the law's where the arguments, and the package variables that the reading takes, are together of bulk at most 1048576: NARROWER than '..Said'. Prove '..Said' where nothing that the law and all that it calls make is longer than what came in: it says more and counts as full. Else prove '..UptoSaid'. A law counts once. -/
mutual
def uptoBulk {H : Type} : DataW H → Nat
  | .lit (.string bytes) => bytes.length + 1
  | .lit _ => 1
  | .nil => 1
  | .ptr d => uptoBulk d + 1
  | .slice elems spare => uptoBulkAll elems + uptoBulkAll spare + 1
  | .agg parts => uptoBulkAll parts + 1
  | .iface _ d => uptoBulk d + 1
  | .map entries => uptoBulkEntries entries + 1
  | .held _ => 1
def uptoBulkAll {H : Type} : List (DataW H) → Nat
  | [] => 0
  | d :: r => uptoBulk d + uptoBulkAll r
def uptoBulkEntries {H : Type} : List (Lit × DataW H) → Nat
  | [] => 0
  | x :: r => uptoBulkEntry x + uptoBulkEntries r
def uptoBulkEntry {H : Type} : Lit × DataW H → Nat
  | (.string bytes, d) => bytes.length + uptoBulk d + 1
  | (_, d) => uptoBulk d + 1
 end
def uptoSmall : (H : Type) → List (DataW H) → Bool := fun _ ds => decide (uptoBulkAll ds ≤ 1048576)
def OpenSpec.upto (s : _root_.Go.ChangeSpec) : _root_.Go.OpenSpec := { _root_.Go.OpenSpec.ofChange s with cond := some uptoSmall }

/-- 'weighlocklaw09.SealCodes', WHERE WHAT IT READS IS OF BULK AT MOST 1048576: true; the input reads as it did. -/
def sealCodesUptoRow : OpenClaim := { program := "ytkmlmondhmpkkaa", sum := "8c58dbf7e6a9ac1f3ec840642259304b91bed60b7870481e7925405dba892a87", func := "weighlock/weighlocklaw09.SealCodes", spec := "sealCodes", apart := false, narrowed := true }
def SealCodesUptoSaid : Prop := sealCodesUptoRow.holds Try.pinned (OpenSpec.upto sealCodesSpec)

/-- 'weighlocklaw09.SealTorn', WHERE WHAT IT READS IS OF BULK AT MOST 1048576: true; the input reads as it did. -/
def sealTornUptoRow : OpenClaim := { program := "ytkmlmondhmpkkaa", sum := "8c58dbf7e6a9ac1f3ec840642259304b91bed60b7870481e7925405dba892a87", func := "weighlock/weighlocklaw09.SealTorn", spec := "sealTorn", apart := false, narrowed := true }
def SealTornUptoSaid : Prop := sealTornUptoRow.holds Try.pinned (OpenSpec.upto sealTornSpec)

/-- 'weighlocklaw10.SuperCodes', WHERE WHAT IT READS IS OF BULK AT MOST 1048576: true; the input reads as it did. -/
def superCodesUptoRow : OpenClaim := { program := "ytkmlmondhmpkkaa", sum := "8c58dbf7e6a9ac1f3ec840642259304b91bed60b7870481e7925405dba892a87", func := "weighlock/weighlocklaw10.SuperCodes", spec := "superCodes", apart := false, narrowed := true }
def SuperCodesUptoSaid : Prop := superCodesUptoRow.holds Try.pinned (OpenSpec.upto superCodesSpec)

/-- 'weighlocklaw10.SuperPicks', WHERE WHAT IT READS IS OF BULK AT MOST 1048576: true; the input reads as it did. -/
def superPicksUptoRow : OpenClaim := { program := "ytkmlmondhmpkkaa", sum := "8c58dbf7e6a9ac1f3ec840642259304b91bed60b7870481e7925405dba892a87", func := "weighlock/weighlocklaw10.SuperPicks", spec := "superPicks", apart := false, narrowed := true }
def SuperPicksUptoSaid : Prop := superPicksUptoRow.holds Try.pinned (OpenSpec.upto superPicksSpec)

/-- 'weighlocklaw10.SuperStores', WHERE WHAT IT READS IS OF BULK AT MOST 1048576: true; the input reads as it did. -/
def superStoresUptoRow : OpenClaim := { program := "ytkmlmondhmpkkaa", sum := "8c58dbf7e6a9ac1f3ec840642259304b91bed60b7870481e7925405dba892a87", func := "weighlock/weighlocklaw10.SuperStores", spec := "superStores", unfollowed := true, recurses := true, apart := false, narrowed := true }
def SuperStoresUptoSaid : Prop := superStoresUptoRow.holds Try.pinned (OpenSpec.upto superStoresSpec)

/-- 'weighlocklaw10.SuperLoads', WHERE WHAT IT READS IS OF BULK AT MOST 1048576: true; the input reads as it did. -/
def superLoadsUptoRow : OpenClaim := { program := "ytkmlmondhmpkkaa", sum := "8c58dbf7e6a9ac1f3ec840642259304b91bed60b7870481e7925405dba892a87", func := "weighlock/weighlocklaw10.SuperLoads", spec := "superLoads", unfollowed := true, recurses := true, apart := false, narrowed := true }
def SuperLoadsUptoSaid : Prop := superLoadsUptoRow.holds Try.pinned (OpenSpec.upto superLoadsSpec)

end Rows
end Go.Proofs.Ytkmlmondhmpkkaa
