/-
  DERIVED. GIVEN WITH THE SEED: THE CARDS: each row of YtlahoehngnebnabDoorRows.lean that lists a variable, with what it lists TIED to the program's text (the seventh form; the later family's looks); each row that meets fmt, with fmt's text TOLD by the authors' own Lean function (tested against real Go, not proved from fmt's source: count such statements apart). THE CARD IS WHAT COUNTS. Prove the row's statement (the work); the ties are given (YtlahoehngnebnabDoorTie.lean); close each card by the builder's one call (the guide's Derived/Test/ToyasCard.lean, 'card_holds'). Laid BY PROGRAM, IN A SANDBOX (cutbox-door.mjs). By AI agents, Wed Nov 11 2026. No macro, syntax, notation, axiom, sorry.
-/
import Derived.Test.YtlahoehngnebnabDoorRows
import GoSem.ClaimSeven
namespace Go.Proofs.YtlahoehngnebnabDoor
namespace Rows

/-- THE TIED CARD OF 'copyholdlaw.TypesDoes'. -/
def typesDoesCard : Claim7 := { stood := { row := typesDoesRow, standIns := [], harness := (true, "70852541cc7a34f956dacac7245b91cc7b88b67b70deb8503570edc1c2c8b508"), looks := true }, kinds := [], alts := [], laidByText := true, laidKinds := [.data, .data, .data], laidTests := true, laidLooks := .later }
def TypesDoesCardSaid : Prop := Claim7.holds Tryd.pinned (.plain (OpenSpec.ofChange typesDoesSpec)) typesDoesCard

/-- THE TIED CARD OF 'copyholdlaw.TypesBack'. -/
def typesBackCard : Claim7 := { stood := { row := typesBackRow, standIns := [], harness := (true, "70852541cc7a34f956dacac7245b91cc7b88b67b70deb8503570edc1c2c8b508"), looks := true }, kinds := [], alts := [], laidByText := true, laidKinds := [.data, .data, .data], laidTests := true, laidLooks := .later }
def TypesBackCardSaid : Prop := Claim7.holds Tryd.pinned (.plain (OpenSpec.ofChange typesBackSpec)) typesBackCard

/-- THE TIED CARD OF 'copyholdlaw.TokenScans'. -/
def tokenScansCard : Claim7 := { stood := { row := tokenScansRow, standIns := [], harness := (true, "70852541cc7a34f956dacac7245b91cc7b88b67b70deb8503570edc1c2c8b508"), looks := true }, kinds := [], alts := [], laidByText := true, laidKinds := [.data, .data, .data, .sentinel, .sentinel], laidTests := true, laidLooks := .later }
def TokenScansCardSaid : Prop := Claim7.holds Tryd.pinned (.plain (OpenSpec.ofChange tokenScansSpec)) tokenScansCard

/-- THE SECOND FORM's CARD OF 'copyholdlaw.TypesDoes'. -/
def typesDoesUptoCard : Claim7 := { stood := { row := typesDoesUptoRow, standIns := [], harness := (true, "70852541cc7a34f956dacac7245b91cc7b88b67b70deb8503570edc1c2c8b508"), looks := true }, kinds := [], alts := [], laidByText := true, laidKinds := [.data, .data, .data], laidTests := true, laidLooks := .later }
def TypesDoesUptoCardSaid : Prop := Claim7.holds Tryd.pinned (.plain (OpenSpec.upto typesDoesSpec)) typesDoesUptoCard

/-- THE SECOND FORM's CARD OF 'copyholdlaw.TypesBack'. -/
def typesBackUptoCard : Claim7 := { stood := { row := typesBackUptoRow, standIns := [], harness := (true, "70852541cc7a34f956dacac7245b91cc7b88b67b70deb8503570edc1c2c8b508"), looks := true }, kinds := [], alts := [], laidByText := true, laidKinds := [.data, .data, .data], laidTests := true, laidLooks := .later }
def TypesBackUptoCardSaid : Prop := Claim7.holds Tryd.pinned (.plain (OpenSpec.upto typesBackSpec)) typesBackUptoCard

/-- THE SECOND FORM's CARD OF 'copyholdlaw.TokenScans'. -/
def tokenScansUptoCard : Claim7 := { stood := { row := tokenScansUptoRow, standIns := [], harness := (true, "70852541cc7a34f956dacac7245b91cc7b88b67b70deb8503570edc1c2c8b508"), looks := true }, kinds := [], alts := [], laidByText := true, laidKinds := [.data, .data, .data, .sentinel, .sentinel], laidTests := true, laidLooks := .later }
def TokenScansUptoCardSaid : Prop := Claim7.holds Tryd.pinned (.plain (OpenSpec.upto tokenScansSpec)) tokenScansUptoCard
end Rows
end Go.Proofs.YtlahoehngnebnabDoor
