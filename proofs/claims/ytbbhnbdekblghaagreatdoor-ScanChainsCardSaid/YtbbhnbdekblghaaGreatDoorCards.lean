/-
  DERIVED. GIVEN WITH THE SEED: THE CARDS: each row of YtbbhnbdekblghaaGreatDoorRows.lean that lists a variable, with what it lists TIED to the program's text (the seventh form; the later family's looks); each row that meets fmt, with fmt's text TOLD by the authors' own Lean function (tested against real Go, not proved from fmt's source: count such statements apart). THE CARD IS WHAT COUNTS. Prove the row's statement (the work); the ties are given (YtbbhnbdekblghaaGreatDoorTie.lean); close each card by the builder's one call (the guide's Derived/Test/ToyasCard.lean, 'card_holds'). Laid BY PROGRAM, IN A SANDBOX (cutbox-door.mjs). By AI agents, Wed Nov 11 2026. No macro, syntax, notation, axiom, sorry.
-/
import Derived.Test.YtbbhnbdekblghaaGreatDoorRows
import GoSem.ClaimSeven
namespace Go.Proofs.YtbbhnbdekblghaaGreatDoor
namespace Rows

/-- THE TIED CARD OF 'weighlocklaw14.SeglogActs'. -/
def seglogActsCard : Claim7 := { stood := { row := seglogActsRow, standIns := [], harness := (true, "7ad440005168e66b130f29431faf61d1cc91b9b90aa450abdb04230726400f83"), looks := false }, kinds := [], alts := [], laidByText := true, laidKinds := [.data], laidTests := true, laidLooks := .later }
def SeglogActsCardSaid : Prop := Claim7.holds Tryz.pinned (.plain (OpenSpec.ofChange seglogActsSpec)) seglogActsCard

/-- THE TIED CARD OF 'weighlocklaw14.SeglogAdopts'. -/
def seglogAdoptsCard : Claim7 := { stood := { row := seglogAdoptsRow, standIns := [], harness := (true, "7ad440005168e66b130f29431faf61d1cc91b9b90aa450abdb04230726400f83"), looks := false }, kinds := [], alts := [], laidByText := true, laidKinds := [.data], laidTests := true, laidLooks := .later }
def SeglogAdoptsCardSaid : Prop := Claim7.holds Tryz.pinned (.plain (OpenSpec.ofChange seglogAdoptsSpec)) seglogAdoptsCard

/-- THE TIED CARD OF 'weighlocklaw15.ScanChains'. -/
def scanChainsCard : Claim7 := { stood := { row := scanChainsRow, standIns := [], harness := (true, "7ad440005168e66b130f29431faf61d1cc91b9b90aa450abdb04230726400f83"), looks := false }, kinds := [], alts := [], laidByText := true, laidKinds := [.data], laidTests := true, laidLooks := .later }
def ScanChainsCardSaid : Prop := Claim7.holds Tryz.pinned (.plain (OpenSpec.ofChange scanChainsSpec)) scanChainsCard

/-- THE SECOND FORM's CARD OF 'weighlocklaw14.SeglogActs'. -/
def seglogActsUptoCard : Claim7 := { stood := { row := seglogActsUptoRow, standIns := [], harness := (true, "7ad440005168e66b130f29431faf61d1cc91b9b90aa450abdb04230726400f83"), looks := false }, kinds := [], alts := [], laidByText := true, laidKinds := [.data], laidTests := true, laidLooks := .later }
def SeglogActsUptoCardSaid : Prop := Claim7.holds Tryz.pinned (.plain (OpenSpec.upto seglogActsSpec)) seglogActsUptoCard

/-- THE SECOND FORM's CARD OF 'weighlocklaw14.SeglogAdopts'. -/
def seglogAdoptsUptoCard : Claim7 := { stood := { row := seglogAdoptsUptoRow, standIns := [], harness := (true, "7ad440005168e66b130f29431faf61d1cc91b9b90aa450abdb04230726400f83"), looks := false }, kinds := [], alts := [], laidByText := true, laidKinds := [.data], laidTests := true, laidLooks := .later }
def SeglogAdoptsUptoCardSaid : Prop := Claim7.holds Tryz.pinned (.plain (OpenSpec.upto seglogAdoptsSpec)) seglogAdoptsUptoCard

/-- THE SECOND FORM's CARD OF 'weighlocklaw15.ScanChains'. -/
def scanChainsUptoCard : Claim7 := { stood := { row := scanChainsUptoRow, standIns := [], harness := (true, "7ad440005168e66b130f29431faf61d1cc91b9b90aa450abdb04230726400f83"), looks := false }, kinds := [], alts := [], laidByText := true, laidKinds := [.data], laidTests := true, laidLooks := .later }
def ScanChainsUptoCardSaid : Prop := Claim7.holds Tryz.pinned (.plain (OpenSpec.upto scanChainsSpec)) scanChainsUptoCard
end Rows
end Go.Proofs.YtbbhnbdekblghaaGreatDoor
