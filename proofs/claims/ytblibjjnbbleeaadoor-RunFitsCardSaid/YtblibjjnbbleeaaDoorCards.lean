/-
  DERIVED. GIVEN WITH THE SEED: THE CARDS: each row of YtblibjjnbbleeaaDoorRows.lean that lists a variable, with what it lists TIED to the program's text (the seventh form; the later family's looks); each row that meets fmt, with fmt's text TOLD by the authors' own Lean function (tested against real Go, not proved from fmt's source: count such statements apart). THE CARD IS WHAT COUNTS. Prove the row's statement (the work); the ties are given (YtblibjjnbbleeaaDoorTie.lean); close each card by the builder's one call (the guide's Derived/Test/ToyasCard.lean, 'card_holds'). Laid BY PROGRAM, IN A SANDBOX (cutbox-door.mjs). By AI agents, Wed Nov 11 2026. No macro, syntax, notation, axiom, sorry.
-/
import Derived.Test.YtblibjjnbbleeaaDoorRows
import GoSem.ClaimSeven
namespace Go.Proofs.YtblibjjnbbleeaaDoor
namespace Rows

/-- THE TIED CARD OF 'cantlelaw11.RunFits'. -/
def runFitsCard : Claim7 := { stood := { row := runFitsRow, standIns := [], harness := (true, "4d8b0e4e368496f4a00d930494cd59975afe1e0e24ab90a21110b69902e85bf7"), looks := false }, kinds := [], alts := [], laidByText := true, laidKinds := [.data], laidTests := true, laidLooks := .later }
def RunFitsCardSaid : Prop := Claim7.holds Tryd.pinned (.plain (OpenSpec.ofChange runFitsSpec)) runFitsCard

/-- THE TIED CARD OF 'cantlelaw11.RunFree'. -/
def runFreeCard : Claim7 := { stood := { row := runFreeRow, standIns := [], harness := (true, "4d8b0e4e368496f4a00d930494cd59975afe1e0e24ab90a21110b69902e85bf7"), looks := false }, kinds := [], alts := [], laidByText := true, laidKinds := [.data], laidTests := true, laidLooks := .later }
def RunFreeCardSaid : Prop := Claim7.holds Tryd.pinned (.plain (OpenSpec.ofChange runFreeSpec)) runFreeCard

/-- THE TIED CARD OF 'cantlelaw11.RunTakes'. -/
def runTakesCard : Claim7 := { stood := { row := runTakesRow, standIns := [], harness := (true, "4d8b0e4e368496f4a00d930494cd59975afe1e0e24ab90a21110b69902e85bf7"), looks := false }, kinds := [], alts := [], laidByText := true, laidKinds := [.data], laidTests := true, laidLooks := .later }
def RunTakesCardSaid : Prop := Claim7.holds Tryd.pinned (.plain (OpenSpec.ofChange runTakesSpec)) runTakesCard

/-- THE TIED CARD OF 'cantlelaw11.RunOnce'. -/
def runOnceCard : Claim7 := { stood := { row := runOnceRow, standIns := [], harness := (true, "4d8b0e4e368496f4a00d930494cd59975afe1e0e24ab90a21110b69902e85bf7"), looks := false }, kinds := [], alts := [], laidByText := true, laidKinds := [.data], laidTests := true, laidLooks := .later }
def RunOnceCardSaid : Prop := Claim7.holds Tryd.pinned (.plain (OpenSpec.ofChange runOnceSpec)) runOnceCard

/-- THE TIED CARD OF 'cantlelaw11.RunJoins'. -/
def runJoinsCard : Claim7 := { stood := { row := runJoinsRow, standIns := [], harness := (true, "4d8b0e4e368496f4a00d930494cd59975afe1e0e24ab90a21110b69902e85bf7"), looks := false }, kinds := [], alts := [], laidByText := true, laidKinds := [.data], laidTests := true, laidLooks := .later }
def RunJoinsCardSaid : Prop := Claim7.holds Tryd.pinned (.plain (OpenSpec.ofChange runJoinsSpec)) runJoinsCard

/-- THE SECOND FORM's CARD OF 'cantlelaw11.RunFits'. -/
def runFitsUptoCard : Claim7 := { stood := { row := runFitsUptoRow, standIns := [], harness := (true, "4d8b0e4e368496f4a00d930494cd59975afe1e0e24ab90a21110b69902e85bf7"), looks := false }, kinds := [], alts := [], laidByText := true, laidKinds := [.data], laidTests := true, laidLooks := .later }
def RunFitsUptoCardSaid : Prop := Claim7.holds Tryd.pinned (.plain (OpenSpec.upto runFitsSpec)) runFitsUptoCard

/-- THE SECOND FORM's CARD OF 'cantlelaw11.RunFree'. -/
def runFreeUptoCard : Claim7 := { stood := { row := runFreeUptoRow, standIns := [], harness := (true, "4d8b0e4e368496f4a00d930494cd59975afe1e0e24ab90a21110b69902e85bf7"), looks := false }, kinds := [], alts := [], laidByText := true, laidKinds := [.data], laidTests := true, laidLooks := .later }
def RunFreeUptoCardSaid : Prop := Claim7.holds Tryd.pinned (.plain (OpenSpec.upto runFreeSpec)) runFreeUptoCard

/-- THE SECOND FORM's CARD OF 'cantlelaw11.RunTakes'. -/
def runTakesUptoCard : Claim7 := { stood := { row := runTakesUptoRow, standIns := [], harness := (true, "4d8b0e4e368496f4a00d930494cd59975afe1e0e24ab90a21110b69902e85bf7"), looks := false }, kinds := [], alts := [], laidByText := true, laidKinds := [.data], laidTests := true, laidLooks := .later }
def RunTakesUptoCardSaid : Prop := Claim7.holds Tryd.pinned (.plain (OpenSpec.upto runTakesSpec)) runTakesUptoCard

/-- THE SECOND FORM's CARD OF 'cantlelaw11.RunOnce'. -/
def runOnceUptoCard : Claim7 := { stood := { row := runOnceUptoRow, standIns := [], harness := (true, "4d8b0e4e368496f4a00d930494cd59975afe1e0e24ab90a21110b69902e85bf7"), looks := false }, kinds := [], alts := [], laidByText := true, laidKinds := [.data], laidTests := true, laidLooks := .later }
def RunOnceUptoCardSaid : Prop := Claim7.holds Tryd.pinned (.plain (OpenSpec.upto runOnceSpec)) runOnceUptoCard

/-- THE SECOND FORM's CARD OF 'cantlelaw11.RunJoins'. -/
def runJoinsUptoCard : Claim7 := { stood := { row := runJoinsUptoRow, standIns := [], harness := (true, "4d8b0e4e368496f4a00d930494cd59975afe1e0e24ab90a21110b69902e85bf7"), looks := false }, kinds := [], alts := [], laidByText := true, laidKinds := [.data], laidTests := true, laidLooks := .later }
def RunJoinsUptoCardSaid : Prop := Claim7.holds Tryd.pinned (.plain (OpenSpec.upto runJoinsSpec)) runJoinsUptoCard
end Rows
end Go.Proofs.YtblibjjnbbleeaaDoor
