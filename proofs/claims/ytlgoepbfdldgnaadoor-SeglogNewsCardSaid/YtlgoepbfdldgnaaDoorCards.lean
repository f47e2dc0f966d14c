/-
  DERIVED. GIVEN WITH THE SEED: THE CARDS: each row of YtlgoepbfdldgnaaDoorRows.lean that lists a variable, with what it lists TIED to the program's text (the seventh form; the later family's looks); each row that meets fmt, with fmt's text TOLD by the authors' own Lean function (tested against real Go, not proved from fmt's source: count such statements apart). THE CARD IS WHAT COUNTS. Prove the row's statement (the work); the ties are given (YtlgoepbfdldgnaaDoorTie.lean); close each card by the builder's one call (the guide's Derived/Test/ToyasCard.lean, 'card_holds'). Laid BY PROGRAM, IN A SANDBOX (cutbox-door.mjs). By AI agents, Wed Nov 11 2026. No macro, syntax, notation, axiom, sorry.
-/
import Derived.Test.YtlgoepbfdldgnaaDoorRows
import GoSem.ClaimSeven
namespace Go.Proofs.YtlgoepbfdldgnaaDoor
namespace Rows

/-- THE TIED CARD OF 'weighlocklaw13.SegmentPuts'. -/
def segmentPutsCard : Claim7 := { stood := { row := segmentPutsRow, standIns := [], harness := (true, "ce3c37da908b599e1bc22dd5575d473792a23c22988c6dfcb352be4ac50bbf23"), looks := false }, kinds := [], alts := [], laidByText := true, laidKinds := [.data], laidTests := true, laidLooks := .later }
def SegmentPutsCardSaid : Prop := Claim7.holds Tryd.pinned (.plain (OpenSpec.ofChange segmentPutsSpec)) segmentPutsCard

/-- THE TIED CARD OF 'weighlocklaw13.SegmentLoads'. -/
def segmentLoadsCard : Claim7 := { stood := { row := segmentLoadsRow, standIns := [], harness := (true, "ce3c37da908b599e1bc22dd5575d473792a23c22988c6dfcb352be4ac50bbf23"), looks := false }, kinds := [], alts := [], laidByText := true, laidKinds := [.data], laidTests := true, laidLooks := .later }
def SegmentLoadsCardSaid : Prop := Claim7.holds Tryd.pinned (.plain (OpenSpec.ofChange segmentLoadsSpec)) segmentLoadsCard

/-- THE TIED CARD OF 'weighlocklaw13.SegmentFalls'. -/
def segmentFallsCard : Claim7 := { stood := { row := segmentFallsRow, standIns := [], harness := (true, "ce3c37da908b599e1bc22dd5575d473792a23c22988c6dfcb352be4ac50bbf23"), looks := false }, kinds := [], alts := [], laidByText := true, laidKinds := [.data], laidTests := true, laidLooks := .later }
def SegmentFallsCardSaid : Prop := Claim7.holds Tryd.pinned (.plain (OpenSpec.ofChange segmentFallsSpec)) segmentFallsCard

/-- THE TIED CARD OF 'weighlocklaw13.SegmentBack'. -/
def segmentBackCard : Claim7 := { stood := { row := segmentBackRow, standIns := [], harness := (true, "ce3c37da908b599e1bc22dd5575d473792a23c22988c6dfcb352be4ac50bbf23"), looks := false }, kinds := [], alts := [], laidByText := true, laidKinds := [.data], laidTests := true, laidLooks := .later }
def SegmentBackCardSaid : Prop := Claim7.holds Tryd.pinned (.plain (OpenSpec.ofChange segmentBackSpec)) segmentBackCard

/-- THE TIED CARD OF 'weighlocklaw13.SegmentNil'. -/
def segmentNilCard : Claim7 := { stood := { row := segmentNilRow, standIns := [], harness := (true, "ce3c37da908b599e1bc22dd5575d473792a23c22988c6dfcb352be4ac50bbf23"), looks := false }, kinds := [], alts := [], laidByText := true, laidKinds := [.data], laidTests := true, laidLooks := .later }
def SegmentNilCardSaid : Prop := Claim7.holds Tryd.pinned (.plain (OpenSpec.ofChange segmentNilSpec)) segmentNilCard

/-- THE TIED CARD OF 'weighlocklaw14.SeglogNews'. -/
def seglogNewsCard : Claim7 := { stood := { row := seglogNewsRow, standIns := [], harness := (true, "ce3c37da908b599e1bc22dd5575d473792a23c22988c6dfcb352be4ac50bbf23"), looks := false }, kinds := [], alts := [], laidByText := true, laidKinds := [.data], laidTests := true, laidLooks := .later }
def SeglogNewsCardSaid : Prop := Claim7.holds Tryd.pinned (.plain (OpenSpec.ofChange seglogNewsSpec)) seglogNewsCard

/-- THE SECOND FORM's CARD OF 'weighlocklaw13.SegmentPuts'. -/
def segmentPutsUptoCard : Claim7 := { stood := { row := segmentPutsUptoRow, standIns := [], harness := (true, "ce3c37da908b599e1bc22dd5575d473792a23c22988c6dfcb352be4ac50bbf23"), looks := false }, kinds := [], alts := [], laidByText := true, laidKinds := [.data], laidTests := true, laidLooks := .later }
def SegmentPutsUptoCardSaid : Prop := Claim7.holds Tryd.pinned (.plain (OpenSpec.upto segmentPutsSpec)) segmentPutsUptoCard

/-- THE SECOND FORM's CARD OF 'weighlocklaw13.SegmentLoads'. -/
def segmentLoadsUptoCard : Claim7 := { stood := { row := segmentLoadsUptoRow, standIns := [], harness := (true, "ce3c37da908b599e1bc22dd5575d473792a23c22988c6dfcb352be4ac50bbf23"), looks := false }, kinds := [], alts := [], laidByText := true, laidKinds := [.data], laidTests := true, laidLooks := .later }
def SegmentLoadsUptoCardSaid : Prop := Claim7.holds Tryd.pinned (.plain (OpenSpec.upto segmentLoadsSpec)) segmentLoadsUptoCard

/-- THE SECOND FORM's CARD OF 'weighlocklaw13.SegmentFalls'. -/
def segmentFallsUptoCard : Claim7 := { stood := { row := segmentFallsUptoRow, standIns := [], harness := (true, "ce3c37da908b599e1bc22dd5575d473792a23c22988c6dfcb352be4ac50bbf23"), looks := false }, kinds := [], alts := [], laidByText := true, laidKinds := [.data], laidTests := true, laidLooks := .later }
def SegmentFallsUptoCardSaid : Prop := Claim7.holds Tryd.pinned (.plain (OpenSpec.upto segmentFallsSpec)) segmentFallsUptoCard

/-- THE SECOND FORM's CARD OF 'weighlocklaw13.SegmentBack'. -/
def segmentBackUptoCard : Claim7 := { stood := { row := segmentBackUptoRow, standIns := [], harness := (true, "ce3c37da908b599e1bc22dd5575d473792a23c22988c6dfcb352be4ac50bbf23"), looks := false }, kinds := [], alts := [], laidByText := true, laidKinds := [.data], laidTests := true, laidLooks := .later }
def SegmentBackUptoCardSaid : Prop := Claim7.holds Tryd.pinned (.plain (OpenSpec.upto segmentBackSpec)) segmentBackUptoCard

/-- THE SECOND FORM's CARD OF 'weighlocklaw13.SegmentNil'. -/
def segmentNilUptoCard : Claim7 := { stood := { row := segmentNilUptoRow, standIns := [], harness := (true, "ce3c37da908b599e1bc22dd5575d473792a23c22988c6dfcb352be4ac50bbf23"), looks := false }, kinds := [], alts := [], laidByText := true, laidKinds := [.data], laidTests := true, laidLooks := .later }
def SegmentNilUptoCardSaid : Prop := Claim7.holds Tryd.pinned (.plain (OpenSpec.upto segmentNilSpec)) segmentNilUptoCard

/-- THE SECOND FORM's CARD OF 'weighlocklaw14.SeglogNews'. -/
def seglogNewsUptoCard : Claim7 := { stood := { row := seglogNewsUptoRow, standIns := [], harness := (true, "ce3c37da908b599e1bc22dd5575d473792a23c22988c6dfcb352be4ac50bbf23"), looks := false }, kinds := [], alts := [], laidByText := true, laidKinds := [.data], laidTests := true, laidLooks := .later }
def SeglogNewsUptoCardSaid : Prop := Claim7.holds Tryd.pinned (.plain (OpenSpec.upto seglogNewsSpec)) seglogNewsUptoCard
end Rows
end Go.Proofs.YtlgoepbfdldgnaaDoor
