/-
  DERIVED. GIVEN WITH THE SEED: THE CARDS: each row of YtcojgpjappjobaaGreatDoorRows.lean that lists a variable, with what it lists TIED to the program's text (the seventh form; the later family's looks); each row that meets fmt, with fmt's text TOLD by the authors' own Lean function (tested against real Go, not proved from fmt's source: count such statements apart). THE CARD IS WHAT COUNTS. Prove the row's statement (the work); the ties are given (YtcojgpjappjobaaGreatDoorTie.lean); close each card by the builder's one call (the guide's Derived/Test/ToyasCard.lean, 'card_holds'). Laid BY PROGRAM, IN A SANDBOX (cutbox-door.mjs). By AI agents, Wed Nov 11 2026. No macro, syntax, notation, axiom, sorry.
-/
import Derived.Test.YtcojgpjappjobaaGreatDoorRows
import GoSem.ClaimSeven
namespace Go.Proofs.YtcojgpjappjobaaGreatDoor
namespace Rows

/-- THE TIED CARD OF 'cantlelaw15.VolumeReads'. -/
def volumeReadsCard : Claim7 := { stood := { row := volumeReadsRow, standIns := [], harness := (true, "7c92731820e82805b7de0052b63893a4ccb17dfa57f682f36ec67c5cd41c99c4"), looks := false }, kinds := [], alts := [], laidByText := true, laidKinds := [.data], laidTests := true, laidLooks := .later }
def VolumeReadsCardSaid : Prop := Claim7.holds Tryz.pinned (.plain (OpenSpec.ofChange volumeReadsSpec)) volumeReadsCard

/-- THE TIED CARD OF 'cantlelaw15.VolumeInodes'. -/
def volumeInodesCard : Claim7 := { stood := { row := volumeInodesRow, standIns := [], harness := (true, "7c92731820e82805b7de0052b63893a4ccb17dfa57f682f36ec67c5cd41c99c4"), looks := false }, kinds := [], alts := [], laidByText := true, laidKinds := [.data], laidTests := true, laidLooks := .later }
def VolumeInodesCardSaid : Prop := Claim7.holds Tryz.pinned (.plain (OpenSpec.ofChange volumeInodesSpec)) volumeInodesCard

/-- THE TIED CARD OF 'cantlelaw15.VolumeSlots'. -/
def volumeSlotsCard : Claim7 := { stood := { row := volumeSlotsRow, standIns := [], harness := (true, "7c92731820e82805b7de0052b63893a4ccb17dfa57f682f36ec67c5cd41c99c4"), looks := false }, kinds := [], alts := [], laidByText := true, laidKinds := [.data], laidTests := true, laidLooks := .later }
def VolumeSlotsCardSaid : Prop := Claim7.holds Tryz.pinned (.plain (OpenSpec.ofChange volumeSlotsSpec)) volumeSlotsCard

/-- THE TIED CARD OF 'cantlelaw15.VolumeBlocks'. -/
def volumeBlocksCard : Claim7 := { stood := { row := volumeBlocksRow, standIns := [], harness := (true, "7c92731820e82805b7de0052b63893a4ccb17dfa57f682f36ec67c5cd41c99c4"), looks := false }, kinds := [], alts := [], laidByText := true, laidKinds := [.data], laidTests := true, laidLooks := .later }
def VolumeBlocksCardSaid : Prop := Claim7.holds Tryz.pinned (.plain (OpenSpec.ofChange volumeBlocksSpec)) volumeBlocksCard

/-- THE TIED CARD OF 'cantlelaw15.VolumeMaps'. -/
def volumeMapsCard : Claim7 := { stood := { row := volumeMapsRow, standIns := [], harness := (true, "7c92731820e82805b7de0052b63893a4ccb17dfa57f682f36ec67c5cd41c99c4"), looks := false }, kinds := [], alts := [], laidByText := true, laidKinds := [.data], laidTests := true, laidLooks := .later }
def VolumeMapsCardSaid : Prop := Claim7.holds Tryz.pinned (.plain (OpenSpec.ofChange volumeMapsSpec)) volumeMapsCard

/-- THE SECOND FORM's CARD OF 'cantlelaw15.VolumeReads'. -/
def volumeReadsUptoCard : Claim7 := { stood := { row := volumeReadsUptoRow, standIns := [], harness := (true, "7c92731820e82805b7de0052b63893a4ccb17dfa57f682f36ec67c5cd41c99c4"), looks := false }, kinds := [], alts := [], laidByText := true, laidKinds := [.data], laidTests := true, laidLooks := .later }
def VolumeReadsUptoCardSaid : Prop := Claim7.holds Tryz.pinned (.plain (OpenSpec.upto volumeReadsSpec)) volumeReadsUptoCard

/-- THE SECOND FORM's CARD OF 'cantlelaw15.VolumeInodes'. -/
def volumeInodesUptoCard : Claim7 := { stood := { row := volumeInodesUptoRow, standIns := [], harness := (true, "7c92731820e82805b7de0052b63893a4ccb17dfa57f682f36ec67c5cd41c99c4"), looks := false }, kinds := [], alts := [], laidByText := true, laidKinds := [.data], laidTests := true, laidLooks := .later }
def VolumeInodesUptoCardSaid : Prop := Claim7.holds Tryz.pinned (.plain (OpenSpec.upto volumeInodesSpec)) volumeInodesUptoCard

/-- THE SECOND FORM's CARD OF 'cantlelaw15.VolumeSlots'. -/
def volumeSlotsUptoCard : Claim7 := { stood := { row := volumeSlotsUptoRow, standIns := [], harness := (true, "7c92731820e82805b7de0052b63893a4ccb17dfa57f682f36ec67c5cd41c99c4"), looks := false }, kinds := [], alts := [], laidByText := true, laidKinds := [.data], laidTests := true, laidLooks := .later }
def VolumeSlotsUptoCardSaid : Prop := Claim7.holds Tryz.pinned (.plain (OpenSpec.upto volumeSlotsSpec)) volumeSlotsUptoCard

/-- THE SECOND FORM's CARD OF 'cantlelaw15.VolumeBlocks'. -/
def volumeBlocksUptoCard : Claim7 := { stood := { row := volumeBlocksUptoRow, standIns := [], harness := (true, "7c92731820e82805b7de0052b63893a4ccb17dfa57f682f36ec67c5cd41c99c4"), looks := false }, kinds := [], alts := [], laidByText := true, laidKinds := [.data], laidTests := true, laidLooks := .later }
def VolumeBlocksUptoCardSaid : Prop := Claim7.holds Tryz.pinned (.plain (OpenSpec.upto volumeBlocksSpec)) volumeBlocksUptoCard

/-- THE SECOND FORM's CARD OF 'cantlelaw15.VolumeMaps'. -/
def volumeMapsUptoCard : Claim7 := { stood := { row := volumeMapsUptoRow, standIns := [], harness := (true, "7c92731820e82805b7de0052b63893a4ccb17dfa57f682f36ec67c5cd41c99c4"), looks := false }, kinds := [], alts := [], laidByText := true, laidKinds := [.data], laidTests := true, laidLooks := .later }
def VolumeMapsUptoCardSaid : Prop := Claim7.holds Tryz.pinned (.plain (OpenSpec.upto volumeMapsSpec)) volumeMapsUptoCard
end Rows
end Go.Proofs.YtcojgpjappjobaaGreatDoor
