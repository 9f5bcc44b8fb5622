/-
  DERIVED. GIVEN WITH THE SEED: THE CARDS: each row of YtkhkcfbacnkcnaaGreatDoorRows.lean that lists a variable, with what it lists TIED to the program's text (the seventh form; the later family's looks); each row that meets fmt, with fmt's text TOLD by the authors' own Lean function (tested against real Go, not proved from fmt's source: count such statements apart). THE CARD IS WHAT COUNTS. Prove the row's statement (the work); the ties are given (YtkhkcfbacnkcnaaGreatDoorTie.lean); close each card by the builder's one call (the guide's Derived/Test/ToyasCard.lean, 'card_holds'). Laid BY PROGRAM, IN A SANDBOX (cutbox-door.mjs). By AI agents, Wed Nov 11 2026. No macro, syntax, notation, axiom, sorry.
-/
import Derived.Test.YtkhkcfbacnkcnaaGreatDoorRows
import GoSem.ClaimSeven
namespace Go.Proofs.YtkhkcfbacnkcnaaGreatDoor
namespace Rows

/-- THE TIED CARD OF 'cantlelaw13.TreePlays'. -/
def treePlaysCard : Claim7 := { stood := { row := treePlaysRow, standIns := [], harness := (true, "e6f4d3aafad9434ed3a048d12cb900f1a0c14830b45f04a89fa147e9a86625cb"), looks := false }, kinds := [], alts := [], laidByText := true, laidKinds := [.data, .pinned], laidTests := true, laidLooks := .later }
def TreePlaysCardSaid : Prop := Claim7.holds Tryz.pinned (.plain (OpenSpec.ofChange treePlaysSpec)) treePlaysCard

/-- THE TIED CARD OF 'cantlelaw13.TreeCopies'. -/
def treeCopiesCard : Claim7 := { stood := { row := treeCopiesRow, standIns := [], harness := (true, "e6f4d3aafad9434ed3a048d12cb900f1a0c14830b45f04a89fa147e9a86625cb"), looks := false }, kinds := [], alts := [], laidByText := true, laidKinds := [.data, .pinned], laidTests := true, laidLooks := .later }
def TreeCopiesCardSaid : Prop := Claim7.holds Tryz.pinned (.plain (OpenSpec.ofChange treeCopiesSpec)) treeCopiesCard

/-- THE TIED CARD OF 'cantlelaw14.ModelDoes'. -/
def modelDoesCard : Claim7 := { stood := { row := modelDoesRow, standIns := [], harness := (true, "e6f4d3aafad9434ed3a048d12cb900f1a0c14830b45f04a89fa147e9a86625cb"), looks := false }, kinds := [], alts := [], laidByText := true, laidKinds := [.data, .pinned], laidTests := true, laidLooks := .later }
def ModelDoesCardSaid : Prop := Claim7.holds Tryz.pinned (.plain (OpenSpec.ofChange modelDoesSpec)) modelDoesCard

/-- THE TIED CARD OF 'cantlelaw14.ModelChanges'. -/
def modelChangesCard : Claim7 := { stood := { row := modelChangesRow, standIns := [], harness := (true, "e6f4d3aafad9434ed3a048d12cb900f1a0c14830b45f04a89fa147e9a86625cb"), looks := false }, kinds := [], alts := [], laidByText := true, laidKinds := [.data, .pinned], laidTests := true, laidLooks := .later }
def ModelChangesCardSaid : Prop := Claim7.holds Tryz.pinned (.plain (OpenSpec.ofChange modelChangesSpec)) modelChangesCard

/-- THE SECOND FORM's CARD OF 'cantlelaw13.TreePlays'. -/
def treePlaysUptoCard : Claim7 := { stood := { row := treePlaysUptoRow, standIns := [], harness := (true, "e6f4d3aafad9434ed3a048d12cb900f1a0c14830b45f04a89fa147e9a86625cb"), looks := false }, kinds := [], alts := [], laidByText := true, laidKinds := [.data, .pinned], laidTests := true, laidLooks := .later }
def TreePlaysUptoCardSaid : Prop := Claim7.holds Tryz.pinned (.plain (OpenSpec.upto treePlaysSpec)) treePlaysUptoCard

/-- THE SECOND FORM's CARD OF 'cantlelaw13.TreeCopies'. -/
def treeCopiesUptoCard : Claim7 := { stood := { row := treeCopiesUptoRow, standIns := [], harness := (true, "e6f4d3aafad9434ed3a048d12cb900f1a0c14830b45f04a89fa147e9a86625cb"), looks := false }, kinds := [], alts := [], laidByText := true, laidKinds := [.data, .pinned], laidTests := true, laidLooks := .later }
def TreeCopiesUptoCardSaid : Prop := Claim7.holds Tryz.pinned (.plain (OpenSpec.upto treeCopiesSpec)) treeCopiesUptoCard

/-- THE SECOND FORM's CARD OF 'cantlelaw14.ModelDoes'. -/
def modelDoesUptoCard : Claim7 := { stood := { row := modelDoesUptoRow, standIns := [], harness := (true, "e6f4d3aafad9434ed3a048d12cb900f1a0c14830b45f04a89fa147e9a86625cb"), looks := false }, kinds := [], alts := [], laidByText := true, laidKinds := [.data, .pinned], laidTests := true, laidLooks := .later }
def ModelDoesUptoCardSaid : Prop := Claim7.holds Tryz.pinned (.plain (OpenSpec.upto modelDoesSpec)) modelDoesUptoCard

/-- THE SECOND FORM's CARD OF 'cantlelaw14.ModelChanges'. -/
def modelChangesUptoCard : Claim7 := { stood := { row := modelChangesUptoRow, standIns := [], harness := (true, "e6f4d3aafad9434ed3a048d12cb900f1a0c14830b45f04a89fa147e9a86625cb"), looks := false }, kinds := [], alts := [], laidByText := true, laidKinds := [.data, .pinned], laidTests := true, laidLooks := .later }
def ModelChangesUptoCardSaid : Prop := Claim7.holds Tryz.pinned (.plain (OpenSpec.upto modelChangesSpec)) modelChangesUptoCard
end Rows
end Go.Proofs.YtkhkcfbacnkcnaaGreatDoor
