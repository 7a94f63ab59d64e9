/-
  DERIVED. GIVEN WITH THE SEED: THE CARDS: each row of YtfpehdldgnfciaaGreatDoorRows.lean that lists a variable, with what it lists TIED to the program's text (the seventh form; the later family's looks); each row that meets fmt, with fmt's text TOLD by the authors' own Lean function (tested against real Go, not proved from fmt's source: count such statements apart). THE CARD IS WHAT COUNTS. Prove the row's statement (the work); the ties are given (YtfpehdldgnfciaaGreatDoorTie.lean); close each card by the builder's one call (the guide's Derived/Test/ToyasCard.lean, 'card_holds'). Laid BY PROGRAM, IN A SANDBOX (cutbox-door.mjs). By AI agents, Wed Nov 11 2026. No macro, syntax, notation, axiom, sorry.
-/
import Derived.Test.YtfpehdldgnfciaaGreatDoorRows
import GoSem.ClaimSeven
namespace Go.Proofs.YtfpehdldgnfciaaGreatDoor
namespace Rows

/-- THE TIED CARD OF 'haversacklaw20.FetchMissing'. -/
def fetchMissingCard : Claim7 := { stood := { row := fetchMissingRow, standIns := [], harness := (true, "52b2198ab76b8a23f01e28a109a878074276ac5c9b705656de7b4921b5035f5e"), looks := true }, kinds := [], alts := [], laidByText := true, laidKinds := [.handle, .data], laidTests := true, laidLooks := .later }
def FetchMissingCardSaid : Prop := Claim7.holds Tryz.pinned (.plain (OpenSpec.ofChange fetchMissingSpec)) fetchMissingCard

/-- THE SECOND FORM's CARD OF 'haversacklaw20.FetchMissing'. -/
def fetchMissingUptoCard : Claim7 := { stood := { row := fetchMissingUptoRow, standIns := [], harness := (true, "52b2198ab76b8a23f01e28a109a878074276ac5c9b705656de7b4921b5035f5e"), looks := true }, kinds := [], alts := [], laidByText := true, laidKinds := [.handle, .data], laidTests := true, laidLooks := .later }
def FetchMissingUptoCardSaid : Prop := Claim7.holds Tryz.pinned (.plain (OpenSpec.upto fetchMissingSpec)) fetchMissingUptoCard
end Rows
end Go.Proofs.YtfpehdldgnfciaaGreatDoor
