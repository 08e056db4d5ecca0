/-
  DERIVED. GIVEN WITH THE SEED: THE CARDS: each row of YtjmkipbolldhgaaDoorRows.lean that lists a variable, with what it lists TIED to the program's text (the seventh form; the later family's looks); each row that meets fmt, with fmt's text TOLD by the authors' own Lean function (tested against real Go, not proved from fmt's source: count such statements apart). THE CARD IS WHAT COUNTS. Prove the row's statement (the work); the ties are given (YtjmkipbolldhgaaDoorTie.lean); close each card by the builder's one call (the guide's Derived/Test/ToyasCard.lean, 'card_holds'). Laid BY PROGRAM, IN A SANDBOX (cutbox-door.mjs). By AI agents, Wed Nov 11 2026. No macro, syntax, notation, axiom, sorry.
-/
import Derived.Test.YtjmkipbolldhgaaDoorRows
import GoSem.ClaimSeven
namespace Go.Proofs.YtjmkipbolldhgaaDoor
namespace Rows

/-- THE TIED CARD OF 'stackyardlaw07.DictWords'. -/
def dictWordsCard : Claim7 := { stood := { row := dictWordsRow, standIns := [], harness := (true, "9384367a35bbeb5ed7569f573bb615c22de746b5d431957e3c9aa0d56c191cf0"), looks := false }, kinds := [], alts := [], laidByText := true, laidKinds := [.data], laidTests := true, laidLooks := .later }
def DictWordsCardSaid : Prop := Claim7.holds Tryd.pinned (.plain (OpenSpec.ofChange dictWordsSpec)) dictWordsCard

/-- THE TIED CARD OF 'stackyardlaw07.DictReads'. -/
def dictReadsCard : Claim7 := { stood := { row := dictReadsRow, standIns := [], harness := (true, "9384367a35bbeb5ed7569f573bb615c22de746b5d431957e3c9aa0d56c191cf0"), looks := false }, kinds := [], alts := [], laidByText := true, laidKinds := [.data], laidTests := true, laidLooks := .later }
def DictReadsCardSaid : Prop := Claim7.holds Tryd.pinned (.plain (OpenSpec.ofChange dictReadsSpec)) dictReadsCard

/-- THE TIED CARD OF 'stackyardlaw07.DictBack'. -/
def dictBackCard : Claim7 := { stood := { row := dictBackRow, standIns := [], harness := (true, "9384367a35bbeb5ed7569f573bb615c22de746b5d431957e3c9aa0d56c191cf0"), looks := false }, kinds := [], alts := [], laidByText := true, laidKinds := [.data], laidTests := true, laidLooks := .later }
def DictBackCardSaid : Prop := Claim7.holds Tryd.pinned (.plain (OpenSpec.ofChange dictBackSpec)) dictBackCard

/-- THE TIED CARD OF 'stackyardlaw07.DictOnce'. -/
def dictOnceCard : Claim7 := { stood := { row := dictOnceRow, standIns := [], harness := (true, "9384367a35bbeb5ed7569f573bb615c22de746b5d431957e3c9aa0d56c191cf0"), looks := false }, kinds := [], alts := [], laidByText := true, laidKinds := [.data], laidTests := true, laidLooks := .later }
def DictOnceCardSaid : Prop := Claim7.holds Tryd.pinned (.plain (OpenSpec.ofChange dictOnceSpec)) dictOnceCard

/-- THE SECOND FORM's CARD OF 'stackyardlaw07.DictWords'. -/
def dictWordsUptoCard : Claim7 := { stood := { row := dictWordsUptoRow, standIns := [], harness := (true, "9384367a35bbeb5ed7569f573bb615c22de746b5d431957e3c9aa0d56c191cf0"), looks := false }, kinds := [], alts := [], laidByText := true, laidKinds := [.data], laidTests := true, laidLooks := .later }
def DictWordsUptoCardSaid : Prop := Claim7.holds Tryd.pinned (.plain (OpenSpec.upto dictWordsSpec)) dictWordsUptoCard

/-- THE SECOND FORM's CARD OF 'stackyardlaw07.DictReads'. -/
def dictReadsUptoCard : Claim7 := { stood := { row := dictReadsUptoRow, standIns := [], harness := (true, "9384367a35bbeb5ed7569f573bb615c22de746b5d431957e3c9aa0d56c191cf0"), looks := false }, kinds := [], alts := [], laidByText := true, laidKinds := [.data], laidTests := true, laidLooks := .later }
def DictReadsUptoCardSaid : Prop := Claim7.holds Tryd.pinned (.plain (OpenSpec.upto dictReadsSpec)) dictReadsUptoCard

/-- THE SECOND FORM's CARD OF 'stackyardlaw07.DictBack'. -/
def dictBackUptoCard : Claim7 := { stood := { row := dictBackUptoRow, standIns := [], harness := (true, "9384367a35bbeb5ed7569f573bb615c22de746b5d431957e3c9aa0d56c191cf0"), looks := false }, kinds := [], alts := [], laidByText := true, laidKinds := [.data], laidTests := true, laidLooks := .later }
def DictBackUptoCardSaid : Prop := Claim7.holds Tryd.pinned (.plain (OpenSpec.upto dictBackSpec)) dictBackUptoCard

/-- THE SECOND FORM's CARD OF 'stackyardlaw07.DictOnce'. -/
def dictOnceUptoCard : Claim7 := { stood := { row := dictOnceUptoRow, standIns := [], harness := (true, "9384367a35bbeb5ed7569f573bb615c22de746b5d431957e3c9aa0d56c191cf0"), looks := false }, kinds := [], alts := [], laidByText := true, laidKinds := [.data], laidTests := true, laidLooks := .later }
def DictOnceUptoCardSaid : Prop := Claim7.holds Tryd.pinned (.plain (OpenSpec.upto dictOnceSpec)) dictOnceUptoCard
end Rows
end Go.Proofs.YtjmkipbolldhgaaDoor
