/-
  DERIVED. GIVEN WITH THE SEED: THE CARDS: each row of YthfnbboambpdgaaDoorRows.lean that lists a variable, with what it lists TIED to the program's text (the seventh form; the later family's looks); each row that meets fmt, with fmt's text TOLD by the authors' own Lean function (tested against real Go, not proved from fmt's source: count such statements apart). THE CARD IS WHAT COUNTS. Prove the row's statement (the work); the ties are given (YthfnbboambpdgaaDoorTie.lean); close each card by the builder's one call (the guide's Derived/Test/ToyasCard.lean, 'card_holds'). Laid BY PROGRAM, IN A SANDBOX (cutbox-door.mjs). By AI agents, Wed Nov 11 2026. No macro, syntax, notation, axiom, sorry.
-/
import Derived.Test.YthfnbboambpdgaaDoorRows
import GoSem.ClaimSeven
namespace Go.Proofs.YthfnbboambpdgaaDoor
namespace Rows

/-- THE TIED CARD OF 'cantlelaw10.BitmapPlays'. -/
def bitmapPlaysCard : Claim7 := { stood := { row := bitmapPlaysRow, standIns := [], harness := (true, "7a46cf21cf3eee9b073b1177c90671cba15ae5c48fda30129a77a74fab23e785"), looks := false }, kinds := [], alts := [], laidByText := true, laidKinds := [.data], laidTests := true, laidLooks := .later }
def BitmapPlaysCardSaid : Prop := Claim7.holds Tryd.pinned (.plain (OpenSpec.ofChange bitmapPlaysSpec)) bitmapPlaysCard

/-- THE TIED CARD OF 'cantlelaw10.BitmapOf'. -/
def bitmapOfCard : Claim7 := { stood := { row := bitmapOfRow, standIns := [], harness := (true, "7a46cf21cf3eee9b073b1177c90671cba15ae5c48fda30129a77a74fab23e785"), looks := false }, kinds := [], alts := [], laidByText := true, laidKinds := [.data], laidTests := true, laidLooks := .later }
def BitmapOfCardSaid : Prop := Claim7.holds Tryd.pinned (.plain (OpenSpec.ofChange bitmapOfSpec)) bitmapOfCard

/-- THE TIED CARD OF 'cantlelaw10.BitmapCopies'. -/
def bitmapCopiesCard : Claim7 := { stood := { row := bitmapCopiesRow, standIns := [], harness := (true, "7a46cf21cf3eee9b073b1177c90671cba15ae5c48fda30129a77a74fab23e785"), looks := false }, kinds := [], alts := [], laidByText := true, laidKinds := [.data], laidTests := true, laidLooks := .later }
def BitmapCopiesCardSaid : Prop := Claim7.holds Tryd.pinned (.plain (OpenSpec.ofChange bitmapCopiesSpec)) bitmapCopiesCard

/-- THE TIED CARD OF 'cantlelaw10.BitmapNext'. -/
def bitmapNextCard : Claim7 := { stood := { row := bitmapNextRow, standIns := [], harness := (true, "7a46cf21cf3eee9b073b1177c90671cba15ae5c48fda30129a77a74fab23e785"), looks := false }, kinds := [], alts := [], laidByText := true, laidKinds := [.data], laidTests := true, laidLooks := .later }
def BitmapNextCardSaid : Prop := Claim7.holds Tryd.pinned (.plain (OpenSpec.ofChange bitmapNextSpec)) bitmapNextCard

/-- THE SECOND FORM's CARD OF 'cantlelaw10.BitmapPlays'. -/
def bitmapPlaysUptoCard : Claim7 := { stood := { row := bitmapPlaysUptoRow, standIns := [], harness := (true, "7a46cf21cf3eee9b073b1177c90671cba15ae5c48fda30129a77a74fab23e785"), looks := false }, kinds := [], alts := [], laidByText := true, laidKinds := [.data], laidTests := true, laidLooks := .later }
def BitmapPlaysUptoCardSaid : Prop := Claim7.holds Tryd.pinned (.plain (OpenSpec.upto bitmapPlaysSpec)) bitmapPlaysUptoCard

/-- THE SECOND FORM's CARD OF 'cantlelaw10.BitmapOf'. -/
def bitmapOfUptoCard : Claim7 := { stood := { row := bitmapOfUptoRow, standIns := [], harness := (true, "7a46cf21cf3eee9b073b1177c90671cba15ae5c48fda30129a77a74fab23e785"), looks := false }, kinds := [], alts := [], laidByText := true, laidKinds := [.data], laidTests := true, laidLooks := .later }
def BitmapOfUptoCardSaid : Prop := Claim7.holds Tryd.pinned (.plain (OpenSpec.upto bitmapOfSpec)) bitmapOfUptoCard

/-- THE SECOND FORM's CARD OF 'cantlelaw10.BitmapCopies'. -/
def bitmapCopiesUptoCard : Claim7 := { stood := { row := bitmapCopiesUptoRow, standIns := [], harness := (true, "7a46cf21cf3eee9b073b1177c90671cba15ae5c48fda30129a77a74fab23e785"), looks := false }, kinds := [], alts := [], laidByText := true, laidKinds := [.data], laidTests := true, laidLooks := .later }
def BitmapCopiesUptoCardSaid : Prop := Claim7.holds Tryd.pinned (.plain (OpenSpec.upto bitmapCopiesSpec)) bitmapCopiesUptoCard

/-- THE SECOND FORM's CARD OF 'cantlelaw10.BitmapNext'. -/
def bitmapNextUptoCard : Claim7 := { stood := { row := bitmapNextUptoRow, standIns := [], harness := (true, "7a46cf21cf3eee9b073b1177c90671cba15ae5c48fda30129a77a74fab23e785"), looks := false }, kinds := [], alts := [], laidByText := true, laidKinds := [.data], laidTests := true, laidLooks := .later }
def BitmapNextUptoCardSaid : Prop := Claim7.holds Tryd.pinned (.plain (OpenSpec.upto bitmapNextSpec)) bitmapNextUptoCard
end Rows
end Go.Proofs.YthfnbboambpdgaaDoor
