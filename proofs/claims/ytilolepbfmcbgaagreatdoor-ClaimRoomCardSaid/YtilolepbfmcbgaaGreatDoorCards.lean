/-
  DERIVED. GIVEN WITH THE SEED: THE CARDS: each row of YtilolepbfmcbgaaGreatDoorRows.lean that lists a variable, with what it lists TIED to the program's text (the seventh form; the later family's looks); each row that meets fmt, with fmt's text TOLD by the authors' own Lean function (tested against real Go, not proved from fmt's source: count such statements apart). THE CARD IS WHAT COUNTS. Prove the row's statement (the work); the ties are given (YtilolepbfmcbgaaGreatDoorTie.lean); close each card by the builder's one call (the guide's Derived/Test/ToyasCard.lean, 'card_holds'). Laid BY PROGRAM, IN A SANDBOX (cutbox-door.mjs). By AI agents, Wed Nov 11 2026. No macro, syntax, notation, axiom, sorry.
-/
import Derived.Test.YtilolepbfmcbgaaGreatDoorRows
import GoSem.ClaimSeven
namespace Go.Proofs.YtilolepbfmcbgaaGreatDoor
namespace Rows

/-- THE TIED CARD OF 'cantlelaw17.ClaimScans'. -/
def claimScansCard : Claim7 := { stood := { row := claimScansRow, standIns := [], harness := (true, "6457e0bc26fd5c3ad10e3fe8de6bee60a949240faea630ed6bf899a5eb8281c4"), looks := false }, kinds := [], alts := [], laidByText := true, laidKinds := [.data], laidTests := true, laidLooks := .later }
def ClaimScansCardSaid : Prop := Claim7.holds Tryz.pinned (.plain (OpenSpec.ofChange claimScansSpec)) claimScansCard

/-- THE TIED CARD OF 'cantlelaw17.ClaimRoom'. -/
def claimRoomCard : Claim7 := { stood := { row := claimRoomRow, standIns := [], harness := (true, "6457e0bc26fd5c3ad10e3fe8de6bee60a949240faea630ed6bf899a5eb8281c4"), looks := false }, kinds := [], alts := [], laidByText := true, laidKinds := [.data], laidTests := true, laidLooks := .later }
def ClaimRoomCardSaid : Prop := Claim7.holds Tryz.pinned (.plain (OpenSpec.ofChange claimRoomSpec)) claimRoomCard

/-- THE TIED CARD OF 'cantlelaw17.ClaimApart'. -/
def claimApartCard : Claim7 := { stood := { row := claimApartRow, standIns := [], harness := (true, "6457e0bc26fd5c3ad10e3fe8de6bee60a949240faea630ed6bf899a5eb8281c4"), looks := false }, kinds := [], alts := [], laidByText := true, laidKinds := [.data], laidTests := true, laidLooks := .later }
def ClaimApartCardSaid : Prop := Claim7.holds Tryz.pinned (.plain (OpenSpec.ofChange claimApartSpec)) claimApartCard

/-- THE TIED CARD OF 'cantlelaw17.ClaimTwice'. -/
def claimTwiceCard : Claim7 := { stood := { row := claimTwiceRow, standIns := [], harness := (true, "6457e0bc26fd5c3ad10e3fe8de6bee60a949240faea630ed6bf899a5eb8281c4"), looks := false }, kinds := [], alts := [], laidByText := true, laidKinds := [.data], laidTests := true, laidLooks := .later }
def ClaimTwiceCardSaid : Prop := Claim7.holds Tryz.pinned (.plain (OpenSpec.ofChange claimTwiceSpec)) claimTwiceCard

/-- THE SECOND FORM's CARD OF 'cantlelaw17.ClaimScans'. -/
def claimScansUptoCard : Claim7 := { stood := { row := claimScansUptoRow, standIns := [], harness := (true, "6457e0bc26fd5c3ad10e3fe8de6bee60a949240faea630ed6bf899a5eb8281c4"), looks := false }, kinds := [], alts := [], laidByText := true, laidKinds := [.data], laidTests := true, laidLooks := .later }
def ClaimScansUptoCardSaid : Prop := Claim7.holds Tryz.pinned (.plain (OpenSpec.upto claimScansSpec)) claimScansUptoCard

/-- THE SECOND FORM's CARD OF 'cantlelaw17.ClaimRoom'. -/
def claimRoomUptoCard : Claim7 := { stood := { row := claimRoomUptoRow, standIns := [], harness := (true, "6457e0bc26fd5c3ad10e3fe8de6bee60a949240faea630ed6bf899a5eb8281c4"), looks := false }, kinds := [], alts := [], laidByText := true, laidKinds := [.data], laidTests := true, laidLooks := .later }
def ClaimRoomUptoCardSaid : Prop := Claim7.holds Tryz.pinned (.plain (OpenSpec.upto claimRoomSpec)) claimRoomUptoCard

/-- THE SECOND FORM's CARD OF 'cantlelaw17.ClaimApart'. -/
def claimApartUptoCard : Claim7 := { stood := { row := claimApartUptoRow, standIns := [], harness := (true, "6457e0bc26fd5c3ad10e3fe8de6bee60a949240faea630ed6bf899a5eb8281c4"), looks := false }, kinds := [], alts := [], laidByText := true, laidKinds := [.data], laidTests := true, laidLooks := .later }
def ClaimApartUptoCardSaid : Prop := Claim7.holds Tryz.pinned (.plain (OpenSpec.upto claimApartSpec)) claimApartUptoCard

/-- THE SECOND FORM's CARD OF 'cantlelaw17.ClaimTwice'. -/
def claimTwiceUptoCard : Claim7 := { stood := { row := claimTwiceUptoRow, standIns := [], harness := (true, "6457e0bc26fd5c3ad10e3fe8de6bee60a949240faea630ed6bf899a5eb8281c4"), looks := false }, kinds := [], alts := [], laidByText := true, laidKinds := [.data], laidTests := true, laidLooks := .later }
def ClaimTwiceUptoCardSaid : Prop := Claim7.holds Tryz.pinned (.plain (OpenSpec.upto claimTwiceSpec)) claimTwiceUptoCard
end Rows
end Go.Proofs.YtilolepbfmcbgaaGreatDoor
