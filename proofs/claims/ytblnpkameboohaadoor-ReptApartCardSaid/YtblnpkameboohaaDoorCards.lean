/-
  DERIVED. GIVEN WITH THE SEED: THE CARDS: each row of YtblnpkameboohaaDoorRows.lean that lists a variable, with what it lists TIED to the program's text (the seventh form; the later family's looks); each row that meets fmt, with fmt's text TOLD by the authors' own Lean function (tested against real Go, not proved from fmt's source: count such statements apart). THE CARD IS WHAT COUNTS. Prove the row's statement (the work); the ties are given (YtblnpkameboohaaDoorTie.lean); close each card by the builder's one call (the guide's Derived/Test/ToyasCard.lean, 'card_holds'). Laid BY PROGRAM, IN A SANDBOX (cutbox-door.mjs). By AI agents, Wed Nov 11 2026. No macro, syntax, notation, axiom, sorry.
-/
import Derived.Test.YtblnpkameboohaaDoorRows
import GoSem.ClaimSeven
namespace Go.Proofs.YtblnpkameboohaaDoor
namespace Rows

/-- THE TIED CARD OF 'colonnadelaw27.ReptApart'. -/
def reptApartCard : Claim7 := { stood := { row := reptApartRow, standIns := [], harness := (true, "3009f734ae4fc5dd13de571690ef14867c2eb8803ceb75c933875e5c6d786dcb"), looks := true }, kinds := [], alts := [], laidByText := true, laidKinds := [.data, .data, .data], laidTests := true, laidLooks := .later }
def ReptApartCardSaid : Prop := Claim7.holds Tryd.pinned (.plain (OpenSpec.ofChange reptApartSpec)) reptApartCard

/-- THE TIED CARD OF 'colonnadelaw25.TextApart'. -/
def textApartCard : Claim7 := { stood := { row := textApartRow, standIns := [], harness := (true, "3009f734ae4fc5dd13de571690ef14867c2eb8803ceb75c933875e5c6d786dcb"), looks := true }, kinds := [], alts := [], laidByText := true, laidKinds := [.data, .data, .data, .data, .sentinel, .sentinel, .pinned], laidTests := true, laidLooks := .later }
def TextApartCardSaid : Prop := Claim7.holds Tryd.pinned (.plain (OpenSpec.ofChange textApartSpec)) textApartCard

/-- THE SECOND FORM's CARD OF 'colonnadelaw27.ReptApart'. -/
def reptApartUptoCard : Claim7 := { stood := { row := reptApartUptoRow, standIns := [], harness := (true, "3009f734ae4fc5dd13de571690ef14867c2eb8803ceb75c933875e5c6d786dcb"), looks := true }, kinds := [], alts := [], laidByText := true, laidKinds := [.data, .data, .data], laidTests := true, laidLooks := .later }
def ReptApartUptoCardSaid : Prop := Claim7.holds Tryd.pinned (.plain (OpenSpec.upto reptApartSpec)) reptApartUptoCard

/-- THE SECOND FORM's CARD OF 'colonnadelaw25.TextApart'. -/
def textApartUptoCard : Claim7 := { stood := { row := textApartUptoRow, standIns := [], harness := (true, "3009f734ae4fc5dd13de571690ef14867c2eb8803ceb75c933875e5c6d786dcb"), looks := true }, kinds := [], alts := [], laidByText := true, laidKinds := [.data, .data, .data, .data, .sentinel, .sentinel, .pinned], laidTests := true, laidLooks := .later }
def TextApartUptoCardSaid : Prop := Claim7.holds Tryd.pinned (.plain (OpenSpec.upto textApartSpec)) textApartUptoCard
end Rows
end Go.Proofs.YtblnpkameboohaaDoor
