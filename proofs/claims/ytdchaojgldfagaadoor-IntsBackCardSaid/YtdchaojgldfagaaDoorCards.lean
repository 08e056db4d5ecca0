/-
  DERIVED. GIVEN WITH THE SEED: THE CARDS: each row of YtdchaojgldfagaaDoorRows.lean that lists a variable, with what it lists TIED to the program's text (the seventh form; the later family's looks); each row that meets fmt, with fmt's text TOLD by the authors' own Lean function (tested against real Go, not proved from fmt's source: count such statements apart). THE CARD IS WHAT COUNTS. Prove the row's statement (the work); the ties are given (YtdchaojgldfagaaDoorTie.lean); close each card by the builder's one call (the guide's Derived/Test/ToyasCard.lean, 'card_holds'). Laid BY PROGRAM, IN A SANDBOX (cutbox-door.mjs). By AI agents, Wed Nov 11 2026. No macro, syntax, notation, axiom, sorry.
-/
import Derived.Test.YtdchaojgldfagaaDoorRows
import GoSem.ClaimSeven
namespace Go.Proofs.YtdchaojgldfagaaDoor
namespace Rows

/-- THE TIED CARD OF 'stackyardlaw06.IntsWords'. -/
def intsWordsCard : Claim7 := { stood := { row := intsWordsRow, standIns := [], harness := (true, "1fd92de25d8045c055e0e4fa57c04029afc92b78a248c65de10ec6a504e8e7ed"), looks := false }, kinds := [], alts := [], laidByText := true, laidKinds := [.data], laidTests := true, laidLooks := .later }
def IntsWordsCardSaid : Prop := Claim7.holds Tryd.pinned (.plain (OpenSpec.ofChange intsWordsSpec)) intsWordsCard

/-- THE TIED CARD OF 'stackyardlaw06.IntsReads'. -/
def intsReadsCard : Claim7 := { stood := { row := intsReadsRow, standIns := [], harness := (true, "1fd92de25d8045c055e0e4fa57c04029afc92b78a248c65de10ec6a504e8e7ed"), looks := false }, kinds := [], alts := [], laidByText := true, laidKinds := [.data], laidTests := true, laidLooks := .later }
def IntsReadsCardSaid : Prop := Claim7.holds Tryd.pinned (.plain (OpenSpec.ofChange intsReadsSpec)) intsReadsCard

/-- THE TIED CARD OF 'stackyardlaw06.IntsBack'. -/
def intsBackCard : Claim7 := { stood := { row := intsBackRow, standIns := [], harness := (true, "1fd92de25d8045c055e0e4fa57c04029afc92b78a248c65de10ec6a504e8e7ed"), looks := false }, kinds := [], alts := [], laidByText := true, laidKinds := [.data], laidTests := true, laidLooks := .later }
def IntsBackCardSaid : Prop := Claim7.holds Tryd.pinned (.plain (OpenSpec.ofChange intsBackSpec)) intsBackCard

/-- THE TIED CARD OF 'stackyardlaw06.IntsBest'. -/
def intsBestCard : Claim7 := { stood := { row := intsBestRow, standIns := [], harness := (true, "1fd92de25d8045c055e0e4fa57c04029afc92b78a248c65de10ec6a504e8e7ed"), looks := false }, kinds := [], alts := [], laidByText := true, laidKinds := [.data], laidTests := true, laidLooks := .later }
def IntsBestCardSaid : Prop := Claim7.holds Tryd.pinned (.plain (OpenSpec.ofChange intsBestSpec)) intsBestCard

/-- THE TIED CARD OF 'stackyardlaw06.IntsSmall'. -/
def intsSmallCard : Claim7 := { stood := { row := intsSmallRow, standIns := [], harness := (true, "1fd92de25d8045c055e0e4fa57c04029afc92b78a248c65de10ec6a504e8e7ed"), looks := false }, kinds := [], alts := [], laidByText := true, laidKinds := [.data], laidTests := true, laidLooks := .later }
def IntsSmallCardSaid : Prop := Claim7.holds Tryd.pinned (.plain (OpenSpec.ofChange intsSmallSpec)) intsSmallCard

/-- THE TIED CARD OF 'stackyardlaw06.IntsNear'. -/
def intsNearCard : Claim7 := { stood := { row := intsNearRow, standIns := [], harness := (true, "1fd92de25d8045c055e0e4fa57c04029afc92b78a248c65de10ec6a504e8e7ed"), looks := false }, kinds := [], alts := [], laidByText := true, laidKinds := [.data], laidTests := true, laidLooks := .later }
def IntsNearCardSaid : Prop := Claim7.holds Tryd.pinned (.plain (OpenSpec.ofChange intsNearSpec)) intsNearCard

/-- THE SECOND FORM's CARD OF 'stackyardlaw06.IntsWords'. -/
def intsWordsUptoCard : Claim7 := { stood := { row := intsWordsUptoRow, standIns := [], harness := (true, "1fd92de25d8045c055e0e4fa57c04029afc92b78a248c65de10ec6a504e8e7ed"), looks := false }, kinds := [], alts := [], laidByText := true, laidKinds := [.data], laidTests := true, laidLooks := .later }
def IntsWordsUptoCardSaid : Prop := Claim7.holds Tryd.pinned (.plain (OpenSpec.upto intsWordsSpec)) intsWordsUptoCard

/-- THE SECOND FORM's CARD OF 'stackyardlaw06.IntsReads'. -/
def intsReadsUptoCard : Claim7 := { stood := { row := intsReadsUptoRow, standIns := [], harness := (true, "1fd92de25d8045c055e0e4fa57c04029afc92b78a248c65de10ec6a504e8e7ed"), looks := false }, kinds := [], alts := [], laidByText := true, laidKinds := [.data], laidTests := true, laidLooks := .later }
def IntsReadsUptoCardSaid : Prop := Claim7.holds Tryd.pinned (.plain (OpenSpec.upto intsReadsSpec)) intsReadsUptoCard

/-- THE SECOND FORM's CARD OF 'stackyardlaw06.IntsBack'. -/
def intsBackUptoCard : Claim7 := { stood := { row := intsBackUptoRow, standIns := [], harness := (true, "1fd92de25d8045c055e0e4fa57c04029afc92b78a248c65de10ec6a504e8e7ed"), looks := false }, kinds := [], alts := [], laidByText := true, laidKinds := [.data], laidTests := true, laidLooks := .later }
def IntsBackUptoCardSaid : Prop := Claim7.holds Tryd.pinned (.plain (OpenSpec.upto intsBackSpec)) intsBackUptoCard

/-- THE SECOND FORM's CARD OF 'stackyardlaw06.IntsBest'. -/
def intsBestUptoCard : Claim7 := { stood := { row := intsBestUptoRow, standIns := [], harness := (true, "1fd92de25d8045c055e0e4fa57c04029afc92b78a248c65de10ec6a504e8e7ed"), looks := false }, kinds := [], alts := [], laidByText := true, laidKinds := [.data], laidTests := true, laidLooks := .later }
def IntsBestUptoCardSaid : Prop := Claim7.holds Tryd.pinned (.plain (OpenSpec.upto intsBestSpec)) intsBestUptoCard

/-- THE SECOND FORM's CARD OF 'stackyardlaw06.IntsSmall'. -/
def intsSmallUptoCard : Claim7 := { stood := { row := intsSmallUptoRow, standIns := [], harness := (true, "1fd92de25d8045c055e0e4fa57c04029afc92b78a248c65de10ec6a504e8e7ed"), looks := false }, kinds := [], alts := [], laidByText := true, laidKinds := [.data], laidTests := true, laidLooks := .later }
def IntsSmallUptoCardSaid : Prop := Claim7.holds Tryd.pinned (.plain (OpenSpec.upto intsSmallSpec)) intsSmallUptoCard

/-- THE SECOND FORM's CARD OF 'stackyardlaw06.IntsNear'. -/
def intsNearUptoCard : Claim7 := { stood := { row := intsNearUptoRow, standIns := [], harness := (true, "1fd92de25d8045c055e0e4fa57c04029afc92b78a248c65de10ec6a504e8e7ed"), looks := false }, kinds := [], alts := [], laidByText := true, laidKinds := [.data], laidTests := true, laidLooks := .later }
def IntsNearUptoCardSaid : Prop := Claim7.holds Tryd.pinned (.plain (OpenSpec.upto intsNearSpec)) intsNearUptoCard
end Rows
end Go.Proofs.YtdchaojgldfagaaDoor
