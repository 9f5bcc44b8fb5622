/-
  DERIVED. GIVEN WITH THE SEED: THE CARDS: each row of YtlodpaaanfjkeaaGreatDoorRows.lean that lists a variable, with what it lists TIED to the program's text (the seventh form; the later family's looks); each row that meets fmt, with fmt's text TOLD by the authors' own Lean function (tested against real Go, not proved from fmt's source: count such statements apart). THE CARD IS WHAT COUNTS. Prove the row's statement (the work); the ties are given (YtlodpaaanfjkeaaGreatDoorTie.lean); close each card by the builder's one call (the guide's Derived/Test/ToyasCard.lean, 'card_holds'). Laid BY PROGRAM, IN A SANDBOX (cutbox-door.mjs). By AI agents, Wed Nov 11 2026. No macro, syntax, notation, axiom, sorry.
-/
import Derived.Test.YtlodpaaanfjkeaaGreatDoorRows
import GoSem.ClaimSeven
namespace Go.Proofs.YtlodpaaanfjkeaaGreatDoor
namespace Rows

/-- THE TIED CARD OF 'cantlelaw20.RecoverAny'. -/
def recoverAnyCard : Claim7 := { stood := { row := recoverAnyRow, standIns := [], harness := (true, "417c818d5379d0da0310d7e761ab37cfd34d6ab1f11b3b838f959b90287aa92c"), looks := false }, kinds := [], alts := [], laidByText := true, laidKinds := [.data, .data, .pinned], laidTests := true, laidLooks := .later }
def RecoverAnyCardSaid : Prop := Claim7.holds Tryz.pinned (.plain (OpenSpec.ofChange recoverAnySpec)) recoverAnyCard

/-- THE SECOND FORM's CARD OF 'cantlelaw20.RecoverAny'. -/
def recoverAnyUptoCard : Claim7 := { stood := { row := recoverAnyUptoRow, standIns := [], harness := (true, "417c818d5379d0da0310d7e761ab37cfd34d6ab1f11b3b838f959b90287aa92c"), looks := false }, kinds := [], alts := [], laidByText := true, laidKinds := [.data, .data, .pinned], laidTests := true, laidLooks := .later }
def RecoverAnyUptoCardSaid : Prop := Claim7.holds Tryz.pinned (.plain (OpenSpec.upto recoverAnySpec)) recoverAnyUptoCard
end Rows
end Go.Proofs.YtlodpaaanfjkeaaGreatDoor
