/-
  No cell of these rows narrows 'for every input' (looked for: loops, veiled, ifaces, maps, wideKeys, modest, calm, conditions, laid).
  DERIVED. THE GIVEN ROWS OF THIS SEAT. 10 by the template 'for every input the law returns true; each argument reads behind the call as it read before'; 0 by the template 'total and deterministic' (their statements: YtbhbiejaneencaaTotals.lean).
  GIVEN WITH THE SEED: the statements are not yours to turn. If you find one false, say at which input.
  Laid BY PROGRAM, IN A SANDBOX (cutbox-rows.mjs): the forced cells as the released guide's own fill.sh prints them over the translation fa5a9fbc2e0ff71c… (all of the seat's roots in one cut). By AI agents, Wed Nov 11 2026. No macro, syntax, notation, axiom, sorry.
-/
import Derived.Test.YtbhbiejaneencaaChecked
import GoSem.Claim
import GoSem.ClaimJoined
import GoSem.ClaimMapViews
import Derived.JoinedTies
import Derived.KernelRfl
namespace Go.Proofs.Ytbhbiejaneencaa
/- THE CELL 'sum', in the pinned program and in every row, IS THE sha256 OF THE DUMP (.gsa) THAT YtbhbiejaneencaaProg.lean LOADS. Nothing in Lean hashes anything: it is a label: what it is worth is what the hold of that sum in a sandbox is worth. -/
noncomputable def Try.pinned : Pinned := { name := "ytbhbiejaneencaa", sum := "fa5a9fbc2e0ff71c5df33e3366bee7e8b20f661aa40693aa4a9d91dfdb3e1aa2", checked := Try.checked }
namespace Rows
def none {H : Type} : Left H := { results := [], args := [] }

/-- 'weighlocklaw03.DiskActs': WHATEVER THE INPUT: true; the input reads as it did. -/
def diskActsSpec : ChangeSpec := { name := "diskActs", fn := fun _ => fun
  | [d1, d2] => { results := [.lit (.bool true)], args := [d1, d2] }
  | _ => none }
def diskActsRow : OpenClaim := { program := "ytbhbiejaneencaa", sum := "fa5a9fbc2e0ff71c5df33e3366bee7e8b20f661aa40693aa4a9d91dfdb3e1aa2", func := "weighlock/weighlocklaw03.DiskActs", spec := "diskActs", unfollowed := true, recurses := true, plainKeys := false, apart := false }
def DiskActsSaid : Prop := diskActsRow.holds Try.pinned (OpenSpec.ofChange diskActsSpec)

/-- ITS FALSE NEIGHBOUR: 'it returns false'. Refute it at one input. -/
def diskActsWrong : ChangeSpec := { name := "diskActs", fn := fun _ => fun
  | [d1, d2] => { results := [.lit (.bool false)], args := [d1, d2] }
  | _ => none }
def DiskActsWrongFalsely : Prop := diskActsRow.holds Try.pinned (OpenSpec.ofChange diskActsWrong)

/-- 'weighlocklaw03.DiskApart': WHATEVER THE INPUT: true; the input reads as it did. -/
def diskApartSpec : ChangeSpec := { name := "diskApart", fn := fun _ => fun
  | [d1, d2] => { results := [.lit (.bool true)], args := [d1, d2] }
  | _ => none }
def diskApartRow : OpenClaim := { program := "ytbhbiejaneencaa", sum := "fa5a9fbc2e0ff71c5df33e3366bee7e8b20f661aa40693aa4a9d91dfdb3e1aa2", func := "weighlock/weighlocklaw03.DiskApart", spec := "diskApart", unfollowed := true, recurses := true, plainKeys := false, apart := false }
def DiskApartSaid : Prop := diskApartRow.holds Try.pinned (OpenSpec.ofChange diskApartSpec)

/-- ITS FALSE NEIGHBOUR: 'it returns false'. Refute it at one input. -/
def diskApartWrong : ChangeSpec := { name := "diskApart", fn := fun _ => fun
  | [d1, d2] => { results := [.lit (.bool false)], args := [d1, d2] }
  | _ => none }
def DiskApartWrongFalsely : Prop := diskApartRow.holds Try.pinned (OpenSpec.ofChange diskApartWrong)

/-- 'weighlocklaw03.DiskLasts': WHATEVER THE INPUT: true; the input reads as it did. -/
def diskLastsSpec : ChangeSpec := { name := "diskLasts", fn := fun _ => fun
  | [d1, d2] => { results := [.lit (.bool true)], args := [d1, d2] }
  | _ => none }
def diskLastsRow : OpenClaim := { program := "ytbhbiejaneencaa", sum := "fa5a9fbc2e0ff71c5df33e3366bee7e8b20f661aa40693aa4a9d91dfdb3e1aa2", func := "weighlock/weighlocklaw03.DiskLasts", spec := "diskLasts", unfollowed := true, recurses := true, plainKeys := false, apart := false }
def DiskLastsSaid : Prop := diskLastsRow.holds Try.pinned (OpenSpec.ofChange diskLastsSpec)

/-- ITS FALSE NEIGHBOUR: 'it returns false'. Refute it at one input. -/
def diskLastsWrong : ChangeSpec := { name := "diskLasts", fn := fun _ => fun
  | [d1, d2] => { results := [.lit (.bool false)], args := [d1, d2] }
  | _ => none }
def DiskLastsWrongFalsely : Prop := diskLastsRow.holds Try.pinned (OpenSpec.ofChange diskLastsWrong)

/-- 'weighlocklaw03.DiskKeeps': WHATEVER THE INPUT: true; the input reads as it did. -/
def diskKeepsSpec : ChangeSpec := { name := "diskKeeps", fn := fun _ => fun
  | [d] => { results := [.lit (.bool true)], args := [d] }
  | _ => none }
def diskKeepsRow : OpenClaim := { program := "ytbhbiejaneencaa", sum := "fa5a9fbc2e0ff71c5df33e3366bee7e8b20f661aa40693aa4a9d91dfdb3e1aa2", func := "weighlock/weighlocklaw03.DiskKeeps", spec := "diskKeeps", unfollowed := true, recurses := true, plainKeys := false, apart := false }
def DiskKeepsSaid : Prop := diskKeepsRow.holds Try.pinned (OpenSpec.ofChange diskKeepsSpec)

/-- ITS FALSE NEIGHBOUR: 'it returns false'. Refute it at one input. -/
def diskKeepsWrong : ChangeSpec := { name := "diskKeeps", fn := fun _ => fun
  | [d] => { results := [.lit (.bool false)], args := [d] }
  | _ => none }
def DiskKeepsWrongFalsely : Prop := diskKeepsRow.holds Try.pinned (OpenSpec.ofChange diskKeepsWrong)

/-- 'weighlocklaw03.DiskNil': WHATEVER THE INPUT: true; the input reads as it did. -/
def diskNilSpec : ChangeSpec := { name := "diskNil", fn := fun _ => fun
  | [d] => { results := [.lit (.bool true)], args := [d] }
  | _ => none }
def diskNilRow : OpenClaim := { program := "ytbhbiejaneencaa", sum := "fa5a9fbc2e0ff71c5df33e3366bee7e8b20f661aa40693aa4a9d91dfdb3e1aa2", func := "weighlock/weighlocklaw03.DiskNil", spec := "diskNil", unfollowed := true, recurses := true, plainKeys := false, apart := false }
def DiskNilSaid : Prop := diskNilRow.holds Try.pinned (OpenSpec.ofChange diskNilSpec)

/-- ITS FALSE NEIGHBOUR: 'it returns false'. Refute it at one input. -/
def diskNilWrong : ChangeSpec := { name := "diskNil", fn := fun _ => fun
  | [d] => { results := [.lit (.bool false)], args := [d] }
  | _ => none }
def DiskNilWrongFalsely : Prop := diskNilRow.holds Try.pinned (OpenSpec.ofChange diskNilWrong)

/-- 'weighlocklaw04.LatticeNews': WHATEVER THE INPUT: true; the input reads as it did. -/
def latticeNewsSpec : ChangeSpec := { name := "latticeNews", fn := fun _ => fun
  | [d] => { results := [.lit (.bool true)], args := [d] }
  | _ => none }
def latticeNewsRow : OpenClaim := { program := "ytbhbiejaneencaa", sum := "fa5a9fbc2e0ff71c5df33e3366bee7e8b20f661aa40693aa4a9d91dfdb3e1aa2", func := "weighlock/weighlocklaw04.LatticeNews", spec := "latticeNews", unfollowed := true, recurses := true, plainKeys := false, apart := false }
def LatticeNewsSaid : Prop := latticeNewsRow.holds Try.pinned (OpenSpec.ofChange latticeNewsSpec)

/-- ITS FALSE NEIGHBOUR: 'it returns false'. Refute it at one input. -/
def latticeNewsWrong : ChangeSpec := { name := "latticeNews", fn := fun _ => fun
  | [d] => { results := [.lit (.bool false)], args := [d] }
  | _ => none }
def LatticeNewsWrongFalsely : Prop := latticeNewsRow.holds Try.pinned (OpenSpec.ofChange latticeNewsWrong)

/-- 'weighlocklaw04.LatticeTells': WHATEVER THE INPUT: true; the input reads as it did. -/
def latticeTellsSpec : ChangeSpec := { name := "latticeTells", fn := fun _ => fun
  | [d1, d2, d3] => { results := [.lit (.bool true)], args := [d1, d2, d3] }
  | _ => none }
def latticeTellsRow : OpenClaim := { program := "ytbhbiejaneencaa", sum := "fa5a9fbc2e0ff71c5df33e3366bee7e8b20f661aa40693aa4a9d91dfdb3e1aa2", func := "weighlock/weighlocklaw04.LatticeTells", spec := "latticeTells", unfollowed := true, recurses := true, plainKeys := false, apart := false }
def LatticeTellsSaid : Prop := latticeTellsRow.holds Try.pinned (OpenSpec.ofChange latticeTellsSpec)

/-- ITS FALSE NEIGHBOUR: 'it returns false'. Refute it at one input. -/
def latticeTellsWrong : ChangeSpec := { name := "latticeTells", fn := fun _ => fun
  | [d1, d2, d3] => { results := [.lit (.bool false)], args := [d1, d2, d3] }
  | _ => none }
def LatticeTellsWrongFalsely : Prop := latticeTellsRow.holds Try.pinned (OpenSpec.ofChange latticeTellsWrong)

/-- 'weighlocklaw04.LatticeAxioms': WHATEVER THE INPUT: true; the input reads as it did. -/
def latticeAxiomsSpec : ChangeSpec := { name := "latticeAxioms", fn := fun _ => fun
  | [d] => { results := [.lit (.bool true)], args := [d] }
  | _ => none }
def latticeAxiomsRow : OpenClaim := { program := "ytbhbiejaneencaa", sum := "fa5a9fbc2e0ff71c5df33e3366bee7e8b20f661aa40693aa4a9d91dfdb3e1aa2", func := "weighlock/weighlocklaw04.LatticeAxioms", spec := "latticeAxioms", unfollowed := true, recurses := true, plainKeys := false, apart := false }
def LatticeAxiomsSaid : Prop := latticeAxiomsRow.holds Try.pinned (OpenSpec.ofChange latticeAxiomsSpec)

/-- ITS FALSE NEIGHBOUR: 'it returns false'. Refute it at one input. -/
def latticeAxiomsWrong : ChangeSpec := { name := "latticeAxioms", fn := fun _ => fun
  | [d] => { results := [.lit (.bool false)], args := [d] }
  | _ => none }
def LatticeAxiomsWrongFalsely : Prop := latticeAxiomsRow.holds Try.pinned (OpenSpec.ofChange latticeAxiomsWrong)

/-- 'weighlocklaw04.LatticeNil': WHATEVER THE INPUT: true; the input reads as it did. -/
def latticeNilSpec : ChangeSpec := { name := "latticeNil", fn := fun _ => fun
  | [d1, d2] => { results := [.lit (.bool true)], args := [d1, d2] }
  | _ => none }
def latticeNilRow : OpenClaim := { program := "ytbhbiejaneencaa", sum := "fa5a9fbc2e0ff71c5df33e3366bee7e8b20f661aa40693aa4a9d91dfdb3e1aa2", func := "weighlock/weighlocklaw04.LatticeNil", spec := "latticeNil", unfollowed := true, recurses := true, plainKeys := false, apart := false }
def LatticeNilSaid : Prop := latticeNilRow.holds Try.pinned (OpenSpec.ofChange latticeNilSpec)

/-- ITS FALSE NEIGHBOUR: 'it returns false'. Refute it at one input. -/
def latticeNilWrong : ChangeSpec := { name := "latticeNil", fn := fun _ => fun
  | [d1, d2] => { results := [.lit (.bool false)], args := [d1, d2] }
  | _ => none }
def LatticeNilWrongFalsely : Prop := latticeNilRow.holds Try.pinned (OpenSpec.ofChange latticeNilWrong)

/-- 'weighlocklaw04.LatticeDual': WHATEVER THE INPUT: true; the input reads as it did. -/
def latticeDualSpec : ChangeSpec := { name := "latticeDual", fn := fun _ => fun
  | [d] => { results := [.lit (.bool true)], args := [d] }
  | _ => none }
def latticeDualRow : OpenClaim := { program := "ytbhbiejaneencaa", sum := "fa5a9fbc2e0ff71c5df33e3366bee7e8b20f661aa40693aa4a9d91dfdb3e1aa2", func := "weighlock/weighlocklaw04.LatticeDual", spec := "latticeDual", unfollowed := true, recurses := true, plainKeys := false, apart := false }
def LatticeDualSaid : Prop := latticeDualRow.holds Try.pinned (OpenSpec.ofChange latticeDualSpec)

/-- ITS FALSE NEIGHBOUR: 'it returns false'. Refute it at one input. -/
def latticeDualWrong : ChangeSpec := { name := "latticeDual", fn := fun _ => fun
  | [d] => { results := [.lit (.bool false)], args := [d] }
  | _ => none }
def LatticeDualWrongFalsely : Prop := latticeDualRow.holds Try.pinned (OpenSpec.ofChange latticeDualWrong)

/- THE SECOND FORM. 'bulk': how many values and letters a reading holds, each counted each time it is reached (what is shared counts as often as it is met; a slice's spare places count too). A statement '..UptoSaid' is the law's where the arguments, and the package variables that the reading takes, are together of bulk at most 1048576: NARROWER than '..Said'. Prove '..Said' where nothing that the law and all that it calls make is longer than what came in: it says more and counts as full. Else prove '..UptoSaid'. A law counts once. -/
mutual
def uptoBulk {H : Type} : DataW H → Nat
  | .lit (.string bytes) => bytes.length + 1
  | .lit _ => 1
  | .nil => 1
  | .ptr d => uptoBulk d + 1
  | .slice elems spare => uptoBulkAll elems + uptoBulkAll spare + 1
  | .agg parts => uptoBulkAll parts + 1
  | .iface _ d => uptoBulk d + 1
  | .map entries => uptoBulkEntries entries + 1
  | .held _ => 1
def uptoBulkAll {H : Type} : List (DataW H) → Nat
  | [] => 0
  | d :: r => uptoBulk d + uptoBulkAll r
def uptoBulkEntries {H : Type} : List (Lit × DataW H) → Nat
  | [] => 0
  | x :: r => uptoBulkEntry x + uptoBulkEntries r
def uptoBulkEntry {H : Type} : Lit × DataW H → Nat
  | (.string bytes, d) => bytes.length + uptoBulk d + 1
  | (_, d) => uptoBulk d + 1
 end
def uptoSmall : (H : Type) → List (DataW H) → Bool := fun _ ds => decide (uptoBulkAll ds ≤ 1048576)
def OpenSpec.upto (s : _root_.Go.ChangeSpec) : _root_.Go.OpenSpec := { _root_.Go.OpenSpec.ofChange s with cond := some uptoSmall }

/-- 'weighlocklaw03.DiskActs', WHERE WHAT IT READS IS OF BULK AT MOST 1048576: true; the input reads as it did. -/
def diskActsUptoRow : OpenClaim := { program := "ytbhbiejaneencaa", sum := "fa5a9fbc2e0ff71c5df33e3366bee7e8b20f661aa40693aa4a9d91dfdb3e1aa2", func := "weighlock/weighlocklaw03.DiskActs", spec := "diskActs", unfollowed := true, recurses := true, plainKeys := false, apart := false, narrowed := true }
def DiskActsUptoSaid : Prop := diskActsUptoRow.holds Try.pinned (OpenSpec.upto diskActsSpec)

/-- 'weighlocklaw03.DiskApart', WHERE WHAT IT READS IS OF BULK AT MOST 1048576: true; the input reads as it did. -/
def diskApartUptoRow : OpenClaim := { program := "ytbhbiejaneencaa", sum := "fa5a9fbc2e0ff71c5df33e3366bee7e8b20f661aa40693aa4a9d91dfdb3e1aa2", func := "weighlock/weighlocklaw03.DiskApart", spec := "diskApart", unfollowed := true, recurses := true, plainKeys := false, apart := false, narrowed := true }
def DiskApartUptoSaid : Prop := diskApartUptoRow.holds Try.pinned (OpenSpec.upto diskApartSpec)

/-- 'weighlocklaw03.DiskLasts', WHERE WHAT IT READS IS OF BULK AT MOST 1048576: true; the input reads as it did. -/
def diskLastsUptoRow : OpenClaim := { program := "ytbhbiejaneencaa", sum := "fa5a9fbc2e0ff71c5df33e3366bee7e8b20f661aa40693aa4a9d91dfdb3e1aa2", func := "weighlock/weighlocklaw03.DiskLasts", spec := "diskLasts", unfollowed := true, recurses := true, plainKeys := false, apart := false, narrowed := true }
def DiskLastsUptoSaid : Prop := diskLastsUptoRow.holds Try.pinned (OpenSpec.upto diskLastsSpec)

/-- 'weighlocklaw03.DiskKeeps', WHERE WHAT IT READS IS OF BULK AT MOST 1048576: true; the input reads as it did. -/
def diskKeepsUptoRow : OpenClaim := { program := "ytbhbiejaneencaa", sum := "fa5a9fbc2e0ff71c5df33e3366bee7e8b20f661aa40693aa4a9d91dfdb3e1aa2", func := "weighlock/weighlocklaw03.DiskKeeps", spec := "diskKeeps", unfollowed := true, recurses := true, plainKeys := false, apart := false, narrowed := true }
def DiskKeepsUptoSaid : Prop := diskKeepsUptoRow.holds Try.pinned (OpenSpec.upto diskKeepsSpec)

/-- 'weighlocklaw03.DiskNil', WHERE WHAT IT READS IS OF BULK AT MOST 1048576: true; the input reads as it did. -/
def diskNilUptoRow : OpenClaim := { program := "ytbhbiejaneencaa", sum := "fa5a9fbc2e0ff71c5df33e3366bee7e8b20f661aa40693aa4a9d91dfdb3e1aa2", func := "weighlock/weighlocklaw03.DiskNil", spec := "diskNil", unfollowed := true, recurses := true, plainKeys := false, apart := false, narrowed := true }
def DiskNilUptoSaid : Prop := diskNilUptoRow.holds Try.pinned (OpenSpec.upto diskNilSpec)

/-- 'weighlocklaw04.LatticeNews', WHERE WHAT IT READS IS OF BULK AT MOST 1048576: true; the input reads as it did. -/
def latticeNewsUptoRow : OpenClaim := { program := "ytbhbiejaneencaa", sum := "fa5a9fbc2e0ff71c5df33e3366bee7e8b20f661aa40693aa4a9d91dfdb3e1aa2", func := "weighlock/weighlocklaw04.LatticeNews", spec := "latticeNews", unfollowed := true, recurses := true, plainKeys := false, apart := false, narrowed := true }
def LatticeNewsUptoSaid : Prop := latticeNewsUptoRow.holds Try.pinned (OpenSpec.upto latticeNewsSpec)

/-- 'weighlocklaw04.LatticeTells', WHERE WHAT IT READS IS OF BULK AT MOST 1048576: true; the input reads as it did. -/
def latticeTellsUptoRow : OpenClaim := { program := "ytbhbiejaneencaa", sum := "fa5a9fbc2e0ff71c5df33e3366bee7e8b20f661aa40693aa4a9d91dfdb3e1aa2", func := "weighlock/weighlocklaw04.LatticeTells", spec := "latticeTells", unfollowed := true, recurses := true, plainKeys := false, apart := false, narrowed := true }
def LatticeTellsUptoSaid : Prop := latticeTellsUptoRow.holds Try.pinned (OpenSpec.upto latticeTellsSpec)

/-- 'weighlocklaw04.LatticeAxioms', WHERE WHAT IT READS IS OF BULK AT MOST 1048576: true; the input reads as it did. -/
def latticeAxiomsUptoRow : OpenClaim := { program := "ytbhbiejaneencaa", sum := "fa5a9fbc2e0ff71c5df33e3366bee7e8b20f661aa40693aa4a9d91dfdb3e1aa2", func := "weighlock/weighlocklaw04.LatticeAxioms", spec := "latticeAxioms", unfollowed := true, recurses := true, plainKeys := false, apart := false, narrowed := true }
def LatticeAxiomsUptoSaid : Prop := latticeAxiomsUptoRow.holds Try.pinned (OpenSpec.upto latticeAxiomsSpec)

/-- 'weighlocklaw04.LatticeNil', WHERE WHAT IT READS IS OF BULK AT MOST 1048576: true; the input reads as it did. -/
def latticeNilUptoRow : OpenClaim := { program := "ytbhbiejaneencaa", sum := "fa5a9fbc2e0ff71c5df33e3366bee7e8b20f661aa40693aa4a9d91dfdb3e1aa2", func := "weighlock/weighlocklaw04.LatticeNil", spec := "latticeNil", unfollowed := true, recurses := true, plainKeys := false, apart := false, narrowed := true }
def LatticeNilUptoSaid : Prop := latticeNilUptoRow.holds Try.pinned (OpenSpec.upto latticeNilSpec)

/-- 'weighlocklaw04.LatticeDual', WHERE WHAT IT READS IS OF BULK AT MOST 1048576: true; the input reads as it did. -/
def latticeDualUptoRow : OpenClaim := { program := "ytbhbiejaneencaa", sum := "fa5a9fbc2e0ff71c5df33e3366bee7e8b20f661aa40693aa4a9d91dfdb3e1aa2", func := "weighlock/weighlocklaw04.LatticeDual", spec := "latticeDual", unfollowed := true, recurses := true, plainKeys := false, apart := false, narrowed := true }
def LatticeDualUptoSaid : Prop := latticeDualUptoRow.holds Try.pinned (OpenSpec.upto latticeDualSpec)

end Rows
end Go.Proofs.Ytbhbiejaneencaa
