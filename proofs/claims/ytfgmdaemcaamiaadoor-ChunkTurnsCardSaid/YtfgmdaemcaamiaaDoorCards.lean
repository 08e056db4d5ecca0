/-
  DERIVED. GIVEN WITH THE SEED: THE CARDS: each row of YtfgmdaemcaamiaaDoorRows.lean that lists a variable, with what it lists TIED to the program's text (the seventh form; the later family's looks); each row that meets fmt, with fmt's text TOLD by the authors' own Lean function (tested against real Go, not proved from fmt's source: count such statements apart). THE CARD IS WHAT COUNTS. Prove the row's statement (the work); the ties are given (YtfgmdaemcaamiaaDoorTie.lean); close each card by the builder's one call (the guide's Derived/Test/ToyasCard.lean, 'card_holds'). Laid BY PROGRAM, IN A SANDBOX (cutbox-door.mjs). By AI agents, Wed Nov 11 2026. No macro, syntax, notation, axiom, sorry.
-/
import Derived.Test.YtfgmdaemcaamiaaDoorRows
import GoSem.ClaimSeven
namespace Go.Proofs.YtfgmdaemcaamiaaDoor
namespace Rows

/-- THE TIED CARD OF 'stackyardlaw08.ChunkWords'. -/
def chunkWordsCard : Claim7 := { stood := { row := chunkWordsRow, standIns := [], harness := (true, "6b8253c0ca6635ae9dcb4ef8cc72ca263f4f70fbb0d13d6079b4b3a67b5ec9b4"), looks := false }, kinds := [], alts := [], laidByText := true, laidKinds := [.data], laidTests := true, laidLooks := .later }
def ChunkWordsCardSaid : Prop := Claim7.holds Tryd.pinned (.plain (OpenSpec.ofChange chunkWordsSpec)) chunkWordsCard

/-- THE TIED CARD OF 'stackyardlaw08.ChunkZones'. -/
def chunkZonesCard : Claim7 := { stood := { row := chunkZonesRow, standIns := [], harness := (true, "6b8253c0ca6635ae9dcb4ef8cc72ca263f4f70fbb0d13d6079b4b3a67b5ec9b4"), looks := false }, kinds := [], alts := [], laidByText := true, laidKinds := [.data], laidTests := true, laidLooks := .later }
def ChunkZonesCardSaid : Prop := Claim7.holds Tryd.pinned (.plain (OpenSpec.ofChange chunkZonesSpec)) chunkZonesCard

/-- THE TIED CARD OF 'stackyardlaw08.ChunkBack'. -/
def chunkBackCard : Claim7 := { stood := { row := chunkBackRow, standIns := [], harness := (true, "6b8253c0ca6635ae9dcb4ef8cc72ca263f4f70fbb0d13d6079b4b3a67b5ec9b4"), looks := false }, kinds := [], alts := [], laidByText := true, laidKinds := [.data], laidTests := true, laidLooks := .later }
def ChunkBackCardSaid : Prop := Claim7.holds Tryd.pinned (.plain (OpenSpec.ofChange chunkBackSpec)) chunkBackCard

/-- THE TIED CARD OF 'stackyardlaw08.ChunkTurns'. -/
def chunkTurnsCard : Claim7 := { stood := { row := chunkTurnsRow, standIns := [], harness := (true, "6b8253c0ca6635ae9dcb4ef8cc72ca263f4f70fbb0d13d6079b4b3a67b5ec9b4"), looks := false }, kinds := [], alts := [], laidByText := true, laidKinds := [.data], laidTests := true, laidLooks := .later }
def ChunkTurnsCardSaid : Prop := Claim7.holds Tryd.pinned (.plain (OpenSpec.ofChange chunkTurnsSpec)) chunkTurnsCard

/-- THE TIED CARD OF 'stackyardlaw08.ChunkWithin'. -/
def chunkWithinCard : Claim7 := { stood := { row := chunkWithinRow, standIns := [], harness := (true, "6b8253c0ca6635ae9dcb4ef8cc72ca263f4f70fbb0d13d6079b4b3a67b5ec9b4"), looks := false }, kinds := [], alts := [], laidByText := true, laidKinds := [.data], laidTests := true, laidLooks := .later }
def ChunkWithinCardSaid : Prop := Claim7.holds Tryd.pinned (.plain (OpenSpec.ofChange chunkWithinSpec)) chunkWithinCard

/-- THE SECOND FORM's CARD OF 'stackyardlaw08.ChunkWords'. -/
def chunkWordsUptoCard : Claim7 := { stood := { row := chunkWordsUptoRow, standIns := [], harness := (true, "6b8253c0ca6635ae9dcb4ef8cc72ca263f4f70fbb0d13d6079b4b3a67b5ec9b4"), looks := false }, kinds := [], alts := [], laidByText := true, laidKinds := [.data], laidTests := true, laidLooks := .later }
def ChunkWordsUptoCardSaid : Prop := Claim7.holds Tryd.pinned (.plain (OpenSpec.upto chunkWordsSpec)) chunkWordsUptoCard

/-- THE SECOND FORM's CARD OF 'stackyardlaw08.ChunkZones'. -/
def chunkZonesUptoCard : Claim7 := { stood := { row := chunkZonesUptoRow, standIns := [], harness := (true, "6b8253c0ca6635ae9dcb4ef8cc72ca263f4f70fbb0d13d6079b4b3a67b5ec9b4"), looks := false }, kinds := [], alts := [], laidByText := true, laidKinds := [.data], laidTests := true, laidLooks := .later }
def ChunkZonesUptoCardSaid : Prop := Claim7.holds Tryd.pinned (.plain (OpenSpec.upto chunkZonesSpec)) chunkZonesUptoCard

/-- THE SECOND FORM's CARD OF 'stackyardlaw08.ChunkBack'. -/
def chunkBackUptoCard : Claim7 := { stood := { row := chunkBackUptoRow, standIns := [], harness := (true, "6b8253c0ca6635ae9dcb4ef8cc72ca263f4f70fbb0d13d6079b4b3a67b5ec9b4"), looks := false }, kinds := [], alts := [], laidByText := true, laidKinds := [.data], laidTests := true, laidLooks := .later }
def ChunkBackUptoCardSaid : Prop := Claim7.holds Tryd.pinned (.plain (OpenSpec.upto chunkBackSpec)) chunkBackUptoCard

/-- THE SECOND FORM's CARD OF 'stackyardlaw08.ChunkTurns'. -/
def chunkTurnsUptoCard : Claim7 := { stood := { row := chunkTurnsUptoRow, standIns := [], harness := (true, "6b8253c0ca6635ae9dcb4ef8cc72ca263f4f70fbb0d13d6079b4b3a67b5ec9b4"), looks := false }, kinds := [], alts := [], laidByText := true, laidKinds := [.data], laidTests := true, laidLooks := .later }
def ChunkTurnsUptoCardSaid : Prop := Claim7.holds Tryd.pinned (.plain (OpenSpec.upto chunkTurnsSpec)) chunkTurnsUptoCard

/-- THE SECOND FORM's CARD OF 'stackyardlaw08.ChunkWithin'. -/
def chunkWithinUptoCard : Claim7 := { stood := { row := chunkWithinUptoRow, standIns := [], harness := (true, "6b8253c0ca6635ae9dcb4ef8cc72ca263f4f70fbb0d13d6079b4b3a67b5ec9b4"), looks := false }, kinds := [], alts := [], laidByText := true, laidKinds := [.data], laidTests := true, laidLooks := .later }
def ChunkWithinUptoCardSaid : Prop := Claim7.holds Tryd.pinned (.plain (OpenSpec.upto chunkWithinSpec)) chunkWithinUptoCard
end Rows
end Go.Proofs.YtfgmdaemcaamiaaDoor
