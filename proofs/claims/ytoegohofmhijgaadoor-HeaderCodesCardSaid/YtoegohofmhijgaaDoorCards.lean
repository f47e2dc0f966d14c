/-
  DERIVED. GIVEN WITH THE SEED: THE CARDS: each row of YtoegohofmhijgaaDoorRows.lean that lists a variable, with what it lists TIED to the program's text (the seventh form; the later family's looks); each row that meets fmt, with fmt's text TOLD by the authors' own Lean function (tested against real Go, not proved from fmt's source: count such statements apart). THE CARD IS WHAT COUNTS. Prove the row's statement (the work); the ties are given (YtoegohofmhijgaaDoorTie.lean); close each card by the builder's one call (the guide's Derived/Test/ToyasCard.lean, 'card_holds'). Laid BY PROGRAM, IN A SANDBOX (cutbox-door.mjs). By AI agents, Wed Nov 11 2026. No macro, syntax, notation, axiom, sorry.
-/
import Derived.Test.YtoegohofmhijgaaDoorRows
import GoSem.ClaimSeven
namespace Go.Proofs.YtoegohofmhijgaaDoor
namespace Rows

/-- THE TIED CARD OF 'weighlocklaw11.HeaderCodes'. -/
def headerCodesCard : Claim7 := { stood := { row := headerCodesRow, standIns := [], harness := (true, "d028a990cadc280b5cfc4ba1f95010b66bbb0ace5f16911ac9d134bb91835128"), looks := false }, kinds := [], alts := [], laidByText := true, laidKinds := [.data], laidTests := true, laidLooks := .later }
def HeaderCodesCardSaid : Prop := Claim7.holds Tryd.pinned (.plain (OpenSpec.ofChange headerCodesSpec)) headerCodesCard

/-- THE TIED CARD OF 'weighlocklaw11.HeaderStamps'. -/
def headerStampsCard : Claim7 := { stood := { row := headerStampsRow, standIns := [], harness := (true, "d028a990cadc280b5cfc4ba1f95010b66bbb0ace5f16911ac9d134bb91835128"), looks := false }, kinds := [], alts := [], laidByText := true, laidKinds := [.data], laidTests := true, laidLooks := .later }
def HeaderStampsCardSaid : Prop := Claim7.holds Tryd.pinned (.plain (OpenSpec.ofChange headerStampsSpec)) headerStampsCard

/-- THE TIED CARD OF 'weighlocklaw11.HeaderBefore'. -/
def headerBeforeCard : Claim7 := { stood := { row := headerBeforeRow, standIns := [], harness := (true, "d028a990cadc280b5cfc4ba1f95010b66bbb0ace5f16911ac9d134bb91835128"), looks := false }, kinds := [], alts := [], laidByText := true, laidKinds := [.data], laidTests := true, laidLooks := .later }
def HeaderBeforeCardSaid : Prop := Claim7.holds Tryd.pinned (.plain (OpenSpec.ofChange headerBeforeSpec)) headerBeforeCard

/-- THE TIED CARD OF 'weighlocklaw11.HeaderChain'. -/
def headerChainCard : Claim7 := { stood := { row := headerChainRow, standIns := [], harness := (true, "d028a990cadc280b5cfc4ba1f95010b66bbb0ace5f16911ac9d134bb91835128"), looks := false }, kinds := [], alts := [], laidByText := true, laidKinds := [.data], laidTests := true, laidLooks := .later }
def HeaderChainCardSaid : Prop := Claim7.holds Tryd.pinned (.plain (OpenSpec.ofChange headerChainSpec)) headerChainCard

/-- THE SECOND FORM's CARD OF 'weighlocklaw11.HeaderCodes'. -/
def headerCodesUptoCard : Claim7 := { stood := { row := headerCodesUptoRow, standIns := [], harness := (true, "d028a990cadc280b5cfc4ba1f95010b66bbb0ace5f16911ac9d134bb91835128"), looks := false }, kinds := [], alts := [], laidByText := true, laidKinds := [.data], laidTests := true, laidLooks := .later }
def HeaderCodesUptoCardSaid : Prop := Claim7.holds Tryd.pinned (.plain (OpenSpec.upto headerCodesSpec)) headerCodesUptoCard

/-- THE SECOND FORM's CARD OF 'weighlocklaw11.HeaderStamps'. -/
def headerStampsUptoCard : Claim7 := { stood := { row := headerStampsUptoRow, standIns := [], harness := (true, "d028a990cadc280b5cfc4ba1f95010b66bbb0ace5f16911ac9d134bb91835128"), looks := false }, kinds := [], alts := [], laidByText := true, laidKinds := [.data], laidTests := true, laidLooks := .later }
def HeaderStampsUptoCardSaid : Prop := Claim7.holds Tryd.pinned (.plain (OpenSpec.upto headerStampsSpec)) headerStampsUptoCard

/-- THE SECOND FORM's CARD OF 'weighlocklaw11.HeaderBefore'. -/
def headerBeforeUptoCard : Claim7 := { stood := { row := headerBeforeUptoRow, standIns := [], harness := (true, "d028a990cadc280b5cfc4ba1f95010b66bbb0ace5f16911ac9d134bb91835128"), looks := false }, kinds := [], alts := [], laidByText := true, laidKinds := [.data], laidTests := true, laidLooks := .later }
def HeaderBeforeUptoCardSaid : Prop := Claim7.holds Tryd.pinned (.plain (OpenSpec.upto headerBeforeSpec)) headerBeforeUptoCard

/-- THE SECOND FORM's CARD OF 'weighlocklaw11.HeaderChain'. -/
def headerChainUptoCard : Claim7 := { stood := { row := headerChainUptoRow, standIns := [], harness := (true, "d028a990cadc280b5cfc4ba1f95010b66bbb0ace5f16911ac9d134bb91835128"), looks := false }, kinds := [], alts := [], laidByText := true, laidKinds := [.data], laidTests := true, laidLooks := .later }
def HeaderChainUptoCardSaid : Prop := Claim7.holds Tryd.pinned (.plain (OpenSpec.upto headerChainSpec)) headerChainUptoCard
end Rows
end Go.Proofs.YtoegohofmhijgaaDoor
