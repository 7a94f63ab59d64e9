/-
  DERIVED. GIVEN WITH THE SEED: THE CARDS: each row of YtfpehdldgnfciaaDoorRows.lean that lists a variable, with what it lists TIED to the program's text (the seventh form; the later family's looks); each row that meets fmt, with fmt's text TOLD by the authors' own Lean function (tested against real Go, not proved from fmt's source: count such statements apart). THE CARD IS WHAT COUNTS. Prove the row's statement (the work); the ties are given (YtfpehdldgnfciaaDoorTie.lean); close each card by the builder's one call (the guide's Derived/Test/ToyasCard.lean, 'card_holds'). Laid BY PROGRAM, IN A SANDBOX (cutbox-door.mjs). By AI agents, Wed Nov 11 2026. No macro, syntax, notation, axiom, sorry.
-/
import Derived.Test.YtfpehdldgnfciaaDoorRows
import GoSem.ClaimSeven
namespace Go.Proofs.YtfpehdldgnfciaaDoor
namespace Rows

/-- THE TIED CARD OF 'haversacklaw20.FetchServed'. -/
def fetchServedCard : Claim7 := { stood := { row := fetchServedRow, standIns := [], harness := (true, "39a5e764369836e53611f8e46f40d0b9f048e8dbedae1455201eea456688fc42"), looks := true }, kinds := [], alts := [], laidByText := true, laidKinds := [.data], laidTests := true, laidLooks := .later }
def FetchServedCardSaid : Prop := Claim7.holds Tryd.pinned (.plain (OpenSpec.ofChange fetchServedSpec)) fetchServedCard

/-- THE SECOND FORM's CARD OF 'haversacklaw20.FetchServed'. -/
def fetchServedUptoCard : Claim7 := { stood := { row := fetchServedUptoRow, standIns := [], harness := (true, "39a5e764369836e53611f8e46f40d0b9f048e8dbedae1455201eea456688fc42"), looks := true }, kinds := [], alts := [], laidByText := true, laidKinds := [.data], laidTests := true, laidLooks := .later }
def FetchServedUptoCardSaid : Prop := Claim7.holds Tryd.pinned (.plain (OpenSpec.upto fetchServedSpec)) fetchServedUptoCard
end Rows
end Go.Proofs.YtfpehdldgnfciaaDoor
