/-
  DERIVED. GIVEN WITH THE SEED: THE CARDS: each row of YthdopcdllggdaaaGreatDoorRows.lean that lists a variable, with what it lists TIED to the program's text (the seventh form; the later family's looks); each row that meets fmt, with fmt's text TOLD by the authors' own Lean function (tested against real Go, not proved from fmt's source: count such statements apart). THE CARD IS WHAT COUNTS. Prove the row's statement (the work); the ties are given (YthdopcdllggdaaaGreatDoorTie.lean); close each card by the builder's one call (the guide's Derived/Test/ToyasCard.lean, 'card_holds'). Laid BY PROGRAM, IN A SANDBOX (cutbox-door.mjs). By AI agents, Wed Nov 11 2026. No macro, syntax, notation, axiom, sorry.
-/
import Derived.Test.YthdopcdllggdaaaGreatDoorRows
import GoSem.ClaimSeven
namespace Go.Proofs.YthdopcdllggdaaaGreatDoor
namespace Rows

/-- THE TIED CARD OF 'haversacklaw12.LockBack'. -/
def lockBackCard : Claim7 := { stood := { row := lockBackRow, standIns := [], harness := (true, "62412960d399ae0f3657fc0a6222cfcf628cfdde417d245578b7d9cfaa61c785"), looks := true }, kinds := [], alts := [], laidByText := true, laidKinds := [.data, .data, .data, .data, .pinned], laidTests := true, laidLooks := .later }
def LockBackCardSaid : Prop := Claim7.holds Tryz.pinned (.plain (OpenSpec.ofChange lockBackSpec)) lockBackCard

/-- THE TIED CARD OF 'haversacklaw12.LockLines'. -/
def lockLinesCard : Claim7 := { stood := { row := lockLinesRow, standIns := [], harness := (true, "62412960d399ae0f3657fc0a6222cfcf628cfdde417d245578b7d9cfaa61c785"), looks := true }, kinds := [], alts := [], laidByText := true, laidKinds := [.data, .data, .data, .data, .pinned], laidTests := true, laidLooks := .later }
def LockLinesCardSaid : Prop := Claim7.holds Tryz.pinned (.plain (OpenSpec.ofChange lockLinesSpec)) lockLinesCard

/-- THE SECOND FORM's CARD OF 'haversacklaw12.LockBack'. -/
def lockBackUptoCard : Claim7 := { stood := { row := lockBackUptoRow, standIns := [], harness := (true, "62412960d399ae0f3657fc0a6222cfcf628cfdde417d245578b7d9cfaa61c785"), looks := true }, kinds := [], alts := [], laidByText := true, laidKinds := [.data, .data, .data, .data, .pinned], laidTests := true, laidLooks := .later }
def LockBackUptoCardSaid : Prop := Claim7.holds Tryz.pinned (.plain (OpenSpec.upto lockBackSpec)) lockBackUptoCard

/-- THE SECOND FORM's CARD OF 'haversacklaw12.LockLines'. -/
def lockLinesUptoCard : Claim7 := { stood := { row := lockLinesUptoRow, standIns := [], harness := (true, "62412960d399ae0f3657fc0a6222cfcf628cfdde417d245578b7d9cfaa61c785"), looks := true }, kinds := [], alts := [], laidByText := true, laidKinds := [.data, .data, .data, .data, .pinned], laidTests := true, laidLooks := .later }
def LockLinesUptoCardSaid : Prop := Claim7.holds Tryz.pinned (.plain (OpenSpec.upto lockLinesSpec)) lockLinesUptoCard
end Rows
end Go.Proofs.YthdopcdllggdaaaGreatDoor
