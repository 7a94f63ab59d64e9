/-
  DERIVED. GIVEN WITH THE SEED: THE CARDS: each row of YthdopcdllggdaaaDoorRows.lean that lists a variable, with what it lists TIED to the program's text (the seventh form; the later family's looks); each row that meets fmt, with fmt's text TOLD by the authors' own Lean function (tested against real Go, not proved from fmt's source: count such statements apart). THE CARD IS WHAT COUNTS. Prove the row's statement (the work); the ties are given (YthdopcdllggdaaaDoorTie.lean); close each card by the builder's one call (the guide's Derived/Test/ToyasCard.lean, 'card_holds'). Laid BY PROGRAM, IN A SANDBOX (cutbox-door.mjs). By AI agents, Wed Nov 11 2026. No macro, syntax, notation, axiom, sorry.
-/
import Derived.Test.YthdopcdllggdaaaDoorRows
import GoSem.ClaimSeven
namespace Go.Proofs.YthdopcdllggdaaaDoor
namespace Rows

/-- THE TIED CARD OF 'haversacklaw12.LockReads'. -/
def lockReadsCard : Claim7 := { stood := { row := lockReadsRow, standIns := [], harness := (true, "7081121ac0bd9d088e28fe85823d9637cf04675e40ee43811433aa3ae0dcb14f"), looks := true }, kinds := [], alts := [], laidByText := true, laidKinds := [.data, .data, .data, .data, .pinned], laidTests := true, laidLooks := .later }
def LockReadsCardSaid : Prop := Claim7.holds Tryd.pinned (.plain (OpenSpec.ofChange lockReadsSpec)) lockReadsCard

/-- THE TIED CARD OF 'haversacklaw12.LockTells'. -/
def lockTellsCard : Claim7 := { stood := { row := lockTellsRow, standIns := [], harness := (true, "7081121ac0bd9d088e28fe85823d9637cf04675e40ee43811433aa3ae0dcb14f"), looks := true }, kinds := [], alts := [], laidByText := true, laidKinds := [.data, .data, .data, .data, .pinned], laidTests := true, laidLooks := .later }
def LockTellsCardSaid : Prop := Claim7.holds Tryd.pinned (.plain (OpenSpec.ofChange lockTellsSpec)) lockTellsCard

/-- THE TIED CARD OF 'haversacklaw12.LockOrder'. -/
def lockOrderCard : Claim7 := { stood := { row := lockOrderRow, standIns := [], harness := (true, "7081121ac0bd9d088e28fe85823d9637cf04675e40ee43811433aa3ae0dcb14f"), looks := true }, kinds := [], alts := [], laidByText := true, laidKinds := [.data, .data, .data, .data, .pinned], laidTests := true, laidLooks := .later }
def LockOrderCardSaid : Prop := Claim7.holds Tryd.pinned (.plain (OpenSpec.ofChange lockOrderSpec)) lockOrderCard

/-- THE SECOND FORM's CARD OF 'haversacklaw12.LockReads'. -/
def lockReadsUptoCard : Claim7 := { stood := { row := lockReadsUptoRow, standIns := [], harness := (true, "7081121ac0bd9d088e28fe85823d9637cf04675e40ee43811433aa3ae0dcb14f"), looks := true }, kinds := [], alts := [], laidByText := true, laidKinds := [.data, .data, .data, .data, .pinned], laidTests := true, laidLooks := .later }
def LockReadsUptoCardSaid : Prop := Claim7.holds Tryd.pinned (.plain (OpenSpec.upto lockReadsSpec)) lockReadsUptoCard

/-- THE SECOND FORM's CARD OF 'haversacklaw12.LockTells'. -/
def lockTellsUptoCard : Claim7 := { stood := { row := lockTellsUptoRow, standIns := [], harness := (true, "7081121ac0bd9d088e28fe85823d9637cf04675e40ee43811433aa3ae0dcb14f"), looks := true }, kinds := [], alts := [], laidByText := true, laidKinds := [.data, .data, .data, .data, .pinned], laidTests := true, laidLooks := .later }
def LockTellsUptoCardSaid : Prop := Claim7.holds Tryd.pinned (.plain (OpenSpec.upto lockTellsSpec)) lockTellsUptoCard

/-- THE SECOND FORM's CARD OF 'haversacklaw12.LockOrder'. -/
def lockOrderUptoCard : Claim7 := { stood := { row := lockOrderUptoRow, standIns := [], harness := (true, "7081121ac0bd9d088e28fe85823d9637cf04675e40ee43811433aa3ae0dcb14f"), looks := true }, kinds := [], alts := [], laidByText := true, laidKinds := [.data, .data, .data, .data, .pinned], laidTests := true, laidLooks := .later }
def LockOrderUptoCardSaid : Prop := Claim7.holds Tryd.pinned (.plain (OpenSpec.upto lockOrderSpec)) lockOrderUptoCard
end Rows
end Go.Proofs.YthdopcdllggdaaaDoor
