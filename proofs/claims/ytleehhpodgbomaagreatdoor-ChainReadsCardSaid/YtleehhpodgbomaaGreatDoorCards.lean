/-
  DERIVED. GIVEN WITH THE SEED: THE CARDS: each row of YtleehhpodgbomaaGreatDoorRows.lean that lists a variable, with what it lists TIED to the program's text (the seventh form; the later family's looks); each row that meets fmt, with fmt's text TOLD by the authors' own Lean function (tested against real Go, not proved from fmt's source: count such statements apart). THE CARD IS WHAT COUNTS. Prove the row's statement (the work); the ties are given (YtleehhpodgbomaaGreatDoorTie.lean); close each card by the builder's one call (the guide's Derived/Test/ToyasCard.lean, 'card_holds'). Laid BY PROGRAM, IN A SANDBOX (cutbox-door.mjs). By AI agents, Wed Nov 11 2026. No macro, syntax, notation, axiom, sorry.
-/
import Derived.Test.YtleehhpodgbomaaGreatDoorRows
import GoSem.ClaimSeven
namespace Go.Proofs.YtleehhpodgbomaaGreatDoor
namespace Rows

/-- THE TIED CARD OF 'cantlelaw16.ChainTails'. -/
def chainTailsCard : Claim7 := { stood := { row := chainTailsRow, standIns := [], harness := (true, "f7891ba311fbd1bff45b982ad690fc28c201bbfc2f536169f26a81c89005fde2"), looks := false }, kinds := [], alts := [], laidByText := true, laidKinds := [.data], laidTests := true, laidLooks := .later }
def ChainTailsCardSaid : Prop := Claim7.holds Tryz.pinned (.plain (OpenSpec.ofChange chainTailsSpec)) chainTailsCard

/-- THE TIED CARD OF 'cantlelaw16.ChainReads'. -/
def chainReadsCard : Claim7 := { stood := { row := chainReadsRow, standIns := [], harness := (true, "f7891ba311fbd1bff45b982ad690fc28c201bbfc2f536169f26a81c89005fde2"), looks := false }, kinds := [], alts := [], laidByText := true, laidKinds := [.data], laidTests := true, laidLooks := .later }
def ChainReadsCardSaid : Prop := Claim7.holds Tryz.pinned (.plain (OpenSpec.ofChange chainReadsSpec)) chainReadsCard

/-- THE TIED CARD OF 'cantlelaw16.ChainWrites'. -/
def chainWritesCard : Claim7 := { stood := { row := chainWritesRow, standIns := [], harness := (true, "f7891ba311fbd1bff45b982ad690fc28c201bbfc2f536169f26a81c89005fde2"), looks := false }, kinds := [], alts := [], laidByText := true, laidKinds := [.data], laidTests := true, laidLooks := .later }
def ChainWritesCardSaid : Prop := Claim7.holds Tryz.pinned (.plain (OpenSpec.ofChange chainWritesSpec)) chainWritesCard

/-- THE TIED CARD OF 'cantlelaw16.ChainLoops'. -/
def chainLoopsCard : Claim7 := { stood := { row := chainLoopsRow, standIns := [], harness := (true, "f7891ba311fbd1bff45b982ad690fc28c201bbfc2f536169f26a81c89005fde2"), looks := false }, kinds := [], alts := [], laidByText := true, laidKinds := [.data], laidTests := true, laidLooks := .later }
def ChainLoopsCardSaid : Prop := Claim7.holds Tryz.pinned (.plain (OpenSpec.ofChange chainLoopsSpec)) chainLoopsCard

/-- THE SECOND FORM's CARD OF 'cantlelaw16.ChainTails'. -/
def chainTailsUptoCard : Claim7 := { stood := { row := chainTailsUptoRow, standIns := [], harness := (true, "f7891ba311fbd1bff45b982ad690fc28c201bbfc2f536169f26a81c89005fde2"), looks := false }, kinds := [], alts := [], laidByText := true, laidKinds := [.data], laidTests := true, laidLooks := .later }
def ChainTailsUptoCardSaid : Prop := Claim7.holds Tryz.pinned (.plain (OpenSpec.upto chainTailsSpec)) chainTailsUptoCard

/-- THE SECOND FORM's CARD OF 'cantlelaw16.ChainReads'. -/
def chainReadsUptoCard : Claim7 := { stood := { row := chainReadsUptoRow, standIns := [], harness := (true, "f7891ba311fbd1bff45b982ad690fc28c201bbfc2f536169f26a81c89005fde2"), looks := false }, kinds := [], alts := [], laidByText := true, laidKinds := [.data], laidTests := true, laidLooks := .later }
def ChainReadsUptoCardSaid : Prop := Claim7.holds Tryz.pinned (.plain (OpenSpec.upto chainReadsSpec)) chainReadsUptoCard

/-- THE SECOND FORM's CARD OF 'cantlelaw16.ChainWrites'. -/
def chainWritesUptoCard : Claim7 := { stood := { row := chainWritesUptoRow, standIns := [], harness := (true, "f7891ba311fbd1bff45b982ad690fc28c201bbfc2f536169f26a81c89005fde2"), looks := false }, kinds := [], alts := [], laidByText := true, laidKinds := [.data], laidTests := true, laidLooks := .later }
def ChainWritesUptoCardSaid : Prop := Claim7.holds Tryz.pinned (.plain (OpenSpec.upto chainWritesSpec)) chainWritesUptoCard

/-- THE SECOND FORM's CARD OF 'cantlelaw16.ChainLoops'. -/
def chainLoopsUptoCard : Claim7 := { stood := { row := chainLoopsUptoRow, standIns := [], harness := (true, "f7891ba311fbd1bff45b982ad690fc28c201bbfc2f536169f26a81c89005fde2"), looks := false }, kinds := [], alts := [], laidByText := true, laidKinds := [.data], laidTests := true, laidLooks := .later }
def ChainLoopsUptoCardSaid : Prop := Claim7.holds Tryz.pinned (.plain (OpenSpec.upto chainLoopsSpec)) chainLoopsUptoCard
end Rows
end Go.Proofs.YtleehhpodgbomaaGreatDoor
