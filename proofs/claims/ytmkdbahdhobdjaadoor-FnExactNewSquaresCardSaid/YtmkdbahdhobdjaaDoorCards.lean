/-
  DERIVED. GIVEN WITH THE SEED: THE CARDS: each row of YtmkdbahdhobdjaaDoorRows.lean that lists a variable, with what it lists TIED to the program's text (the seventh form; the later family's looks); each row that meets fmt, with fmt's text TOLD by the authors' own Lean function (tested against real Go, not proved from fmt's source: count such statements apart). THE CARD IS WHAT COUNTS. Prove the row's statement (the work); the ties are given (YtmkdbahdhobdjaaDoorTie.lean); close each card by the builder's one call (the guide's Derived/Test/ToyasCard.lean, 'card_holds'). Laid BY PROGRAM, IN A SANDBOX (cutbox-door.mjs). By AI agents, Wed Nov 11 2026. No macro, syntax, notation, axiom, sorry.
-/
import Derived.Test.YtmkdbahdhobdjaaDoorRows
import GoSem.ClaimSeven
namespace Go.Proofs.YtmkdbahdhobdjaaDoor
namespace Rows

/-- THE TIED CARD OF 'laws.FnExactTilesOn'. -/
def fnExactTilesOnCard : Claim7 := { stood := { row := fnExactTilesOnRow, standIns := [], harness := (true, "6f5975e12d98f6e0058bc13c792fc8604dedfe9ebb283867cb95d8c8589f0683"), looks := true }, kinds := [], alts := [], laidByText := true, laidKinds := [.data, .pinned], laidTests := true, laidLooks := .later }
def FnExactTilesOnCardSaid : Prop := Claim7.holds Tryd.pinned (.plain (OpenSpec.ofChange fnExactTilesOnSpec)) fnExactTilesOnCard

/-- THE TIED CARD OF 'laws.FnExactWordsOn'. -/
def fnExactWordsOnCard : Claim7 := { stood := { row := fnExactWordsOnRow, standIns := [], harness := (true, "6f5975e12d98f6e0058bc13c792fc8604dedfe9ebb283867cb95d8c8589f0683"), looks := true }, kinds := [], alts := [], laidByText := true, laidKinds := [.data, .pinned], laidTests := true, laidLooks := .later }
def FnExactWordsOnCardSaid : Prop := Claim7.holds Tryd.pinned (.plain (OpenSpec.ofChange fnExactWordsOnSpec)) fnExactWordsOnCard

/-- THE TIED CARD OF 'laws.FnExactBoardText'. -/
def fnExactBoardTextCard : Claim7 := { stood := { row := fnExactBoardTextRow, standIns := [], harness := (true, "6f5975e12d98f6e0058bc13c792fc8604dedfe9ebb283867cb95d8c8589f0683"), looks := true }, kinds := [], alts := [], laidByText := true, laidKinds := [.data, .data, .data], laidTests := true, laidLooks := .later }
def FnExactBoardTextCardSaid : Prop := Claim7.holds Tryd.pinned (.plain (OpenSpec.ofChange fnExactBoardTextSpec)) fnExactBoardTextCard

/-- THE TIED CARD OF 'laws.FnExactReadBoard'. -/
def fnExactReadBoardCard : Claim7 := { stood := { row := fnExactReadBoardRow, standIns := [], harness := (true, "6f5975e12d98f6e0058bc13c792fc8604dedfe9ebb283867cb95d8c8589f0683"), looks := true }, kinds := [], alts := [], laidByText := true, laidKinds := [.data, .data, .data, .data, .sentinel, .sentinel, .pinned], laidTests := true, laidLooks := .later }
def FnExactReadBoardCardSaid : Prop := Claim7.holds Tryd.pinned (.plain (OpenSpec.ofChange fnExactReadBoardSpec)) fnExactReadBoardCard

/-- THE TIED CARD OF 'laws.FnExactValidPlay'. -/
def fnExactValidPlayCard : Claim7 := { stood := { row := fnExactValidPlayRow, standIns := [], harness := (true, "6f5975e12d98f6e0058bc13c792fc8604dedfe9ebb283867cb95d8c8589f0683"), looks := true }, kinds := [], alts := [], laidByText := true, laidKinds := [.data, .pinned], laidTests := true, laidLooks := .later }
def FnExactValidPlayCardSaid : Prop := Claim7.holds Tryd.pinned (.plain (OpenSpec.ofChange fnExactValidPlaySpec)) fnExactValidPlayCard

/-- THE TIED CARD OF 'laws.FnExactNewSquares'. -/
def fnExactNewSquaresCard : Claim7 := { stood := { row := fnExactNewSquaresRow, standIns := [], harness := (true, "6f5975e12d98f6e0058bc13c792fc8604dedfe9ebb283867cb95d8c8589f0683"), looks := true }, kinds := [], alts := [], laidByText := true, laidKinds := [.data, .pinned], laidTests := true, laidLooks := .later }
def FnExactNewSquaresCardSaid : Prop := Claim7.holds Tryd.pinned (.plain (OpenSpec.ofChange fnExactNewSquaresSpec)) fnExactNewSquaresCard

/-- THE TIED CARD OF 'laws.FnExactPlacedTiles'. -/
def fnExactPlacedTilesCard : Claim7 := { stood := { row := fnExactPlacedTilesRow, standIns := [], harness := (true, "6f5975e12d98f6e0058bc13c792fc8604dedfe9ebb283867cb95d8c8589f0683"), looks := true }, kinds := [], alts := [], laidByText := true, laidKinds := [.data, .pinned], laidTests := true, laidLooks := .later }
def FnExactPlacedTilesCardSaid : Prop := Claim7.holds Tryd.pinned (.plain (OpenSpec.ofChange fnExactPlacedTilesSpec)) fnExactPlacedTilesCard

/-- THE TIED CARD OF 'laws.FnExactWordsFormed'. -/
def fnExactWordsFormedCard : Claim7 := { stood := { row := fnExactWordsFormedRow, standIns := [], harness := (true, "6f5975e12d98f6e0058bc13c792fc8604dedfe9ebb283867cb95d8c8589f0683"), looks := true }, kinds := [], alts := [], laidByText := true, laidKinds := [.data, .pinned], laidTests := true, laidLooks := .later }
def FnExactWordsFormedCardSaid : Prop := Claim7.holds Tryd.pinned (.plain (OpenSpec.ofChange fnExactWordsFormedSpec)) fnExactWordsFormedCard

/-- THE TIED CARD OF 'laws.FnExactTouchesBoard'. -/
def fnExactTouchesBoardCard : Claim7 := { stood := { row := fnExactTouchesBoardRow, standIns := [], harness := (true, "6f5975e12d98f6e0058bc13c792fc8604dedfe9ebb283867cb95d8c8589f0683"), looks := true }, kinds := [], alts := [], laidByText := true, laidKinds := [.data, .pinned], laidTests := true, laidLooks := .later }
def FnExactTouchesBoardCardSaid : Prop := Claim7.holds Tryd.pinned (.plain (OpenSpec.ofChange fnExactTouchesBoardSpec)) fnExactTouchesBoardCard

/-- THE TIED CARD OF 'laws.FnExactMakePlay'. -/
def fnExactMakePlayCard : Claim7 := { stood := { row := fnExactMakePlayRow, standIns := [], harness := (true, "6f5975e12d98f6e0058bc13c792fc8604dedfe9ebb283867cb95d8c8589f0683"), looks := true }, kinds := [], alts := [], laidByText := true, laidKinds := [.data, .pinned], laidTests := true, laidLooks := .later }
def FnExactMakePlayCardSaid : Prop := Claim7.holds Tryd.pinned (.plain (OpenSpec.ofChange fnExactMakePlaySpec)) fnExactMakePlayCard

/-- THE SECOND FORM's CARD OF 'laws.FnExactTilesOn'. -/
def fnExactTilesOnUptoCard : Claim7 := { stood := { row := fnExactTilesOnUptoRow, standIns := [], harness := (true, "6f5975e12d98f6e0058bc13c792fc8604dedfe9ebb283867cb95d8c8589f0683"), looks := true }, kinds := [], alts := [], laidByText := true, laidKinds := [.data, .pinned], laidTests := true, laidLooks := .later }
def FnExactTilesOnUptoCardSaid : Prop := Claim7.holds Tryd.pinned (.plain (OpenSpec.upto fnExactTilesOnSpec)) fnExactTilesOnUptoCard

/-- THE SECOND FORM's CARD OF 'laws.FnExactWordsOn'. -/
def fnExactWordsOnUptoCard : Claim7 := { stood := { row := fnExactWordsOnUptoRow, standIns := [], harness := (true, "6f5975e12d98f6e0058bc13c792fc8604dedfe9ebb283867cb95d8c8589f0683"), looks := true }, kinds := [], alts := [], laidByText := true, laidKinds := [.data, .pinned], laidTests := true, laidLooks := .later }
def FnExactWordsOnUptoCardSaid : Prop := Claim7.holds Tryd.pinned (.plain (OpenSpec.upto fnExactWordsOnSpec)) fnExactWordsOnUptoCard

/-- THE SECOND FORM's CARD OF 'laws.FnExactBoardText'. -/
def fnExactBoardTextUptoCard : Claim7 := { stood := { row := fnExactBoardTextUptoRow, standIns := [], harness := (true, "6f5975e12d98f6e0058bc13c792fc8604dedfe9ebb283867cb95d8c8589f0683"), looks := true }, kinds := [], alts := [], laidByText := true, laidKinds := [.data, .data, .data], laidTests := true, laidLooks := .later }
def FnExactBoardTextUptoCardSaid : Prop := Claim7.holds Tryd.pinned (.plain (OpenSpec.upto fnExactBoardTextSpec)) fnExactBoardTextUptoCard

/-- THE SECOND FORM's CARD OF 'laws.FnExactReadBoard'. -/
def fnExactReadBoardUptoCard : Claim7 := { stood := { row := fnExactReadBoardUptoRow, standIns := [], harness := (true, "6f5975e12d98f6e0058bc13c792fc8604dedfe9ebb283867cb95d8c8589f0683"), looks := true }, kinds := [], alts := [], laidByText := true, laidKinds := [.data, .data, .data, .data, .sentinel, .sentinel, .pinned], laidTests := true, laidLooks := .later }
def FnExactReadBoardUptoCardSaid : Prop := Claim7.holds Tryd.pinned (.plain (OpenSpec.upto fnExactReadBoardSpec)) fnExactReadBoardUptoCard

/-- THE SECOND FORM's CARD OF 'laws.FnExactValidPlay'. -/
def fnExactValidPlayUptoCard : Claim7 := { stood := { row := fnExactValidPlayUptoRow, standIns := [], harness := (true, "6f5975e12d98f6e0058bc13c792fc8604dedfe9ebb283867cb95d8c8589f0683"), looks := true }, kinds := [], alts := [], laidByText := true, laidKinds := [.data, .pinned], laidTests := true, laidLooks := .later }
def FnExactValidPlayUptoCardSaid : Prop := Claim7.holds Tryd.pinned (.plain (OpenSpec.upto fnExactValidPlaySpec)) fnExactValidPlayUptoCard

/-- THE SECOND FORM's CARD OF 'laws.FnExactNewSquares'. -/
def fnExactNewSquaresUptoCard : Claim7 := { stood := { row := fnExactNewSquaresUptoRow, standIns := [], harness := (true, "6f5975e12d98f6e0058bc13c792fc8604dedfe9ebb283867cb95d8c8589f0683"), looks := true }, kinds := [], alts := [], laidByText := true, laidKinds := [.data, .pinned], laidTests := true, laidLooks := .later }
def FnExactNewSquaresUptoCardSaid : Prop := Claim7.holds Tryd.pinned (.plain (OpenSpec.upto fnExactNewSquaresSpec)) fnExactNewSquaresUptoCard

/-- THE SECOND FORM's CARD OF 'laws.FnExactPlacedTiles'. -/
def fnExactPlacedTilesUptoCard : Claim7 := { stood := { row := fnExactPlacedTilesUptoRow, standIns := [], harness := (true, "6f5975e12d98f6e0058bc13c792fc8604dedfe9ebb283867cb95d8c8589f0683"), looks := true }, kinds := [], alts := [], laidByText := true, laidKinds := [.data, .pinned], laidTests := true, laidLooks := .later }
def FnExactPlacedTilesUptoCardSaid : Prop := Claim7.holds Tryd.pinned (.plain (OpenSpec.upto fnExactPlacedTilesSpec)) fnExactPlacedTilesUptoCard

/-- THE SECOND FORM's CARD OF 'laws.FnExactWordsFormed'. -/
def fnExactWordsFormedUptoCard : Claim7 := { stood := { row := fnExactWordsFormedUptoRow, standIns := [], harness := (true, "6f5975e12d98f6e0058bc13c792fc8604dedfe9ebb283867cb95d8c8589f0683"), looks := true }, kinds := [], alts := [], laidByText := true, laidKinds := [.data, .pinned], laidTests := true, laidLooks := .later }
def FnExactWordsFormedUptoCardSaid : Prop := Claim7.holds Tryd.pinned (.plain (OpenSpec.upto fnExactWordsFormedSpec)) fnExactWordsFormedUptoCard

/-- THE SECOND FORM's CARD OF 'laws.FnExactTouchesBoard'. -/
def fnExactTouchesBoardUptoCard : Claim7 := { stood := { row := fnExactTouchesBoardUptoRow, standIns := [], harness := (true, "6f5975e12d98f6e0058bc13c792fc8604dedfe9ebb283867cb95d8c8589f0683"), looks := true }, kinds := [], alts := [], laidByText := true, laidKinds := [.data, .pinned], laidTests := true, laidLooks := .later }
def FnExactTouchesBoardUptoCardSaid : Prop := Claim7.holds Tryd.pinned (.plain (OpenSpec.upto fnExactTouchesBoardSpec)) fnExactTouchesBoardUptoCard

/-- THE SECOND FORM's CARD OF 'laws.FnExactMakePlay'. -/
def fnExactMakePlayUptoCard : Claim7 := { stood := { row := fnExactMakePlayUptoRow, standIns := [], harness := (true, "6f5975e12d98f6e0058bc13c792fc8604dedfe9ebb283867cb95d8c8589f0683"), looks := true }, kinds := [], alts := [], laidByText := true, laidKinds := [.data, .pinned], laidTests := true, laidLooks := .later }
def FnExactMakePlayUptoCardSaid : Prop := Claim7.holds Tryd.pinned (.plain (OpenSpec.upto fnExactMakePlaySpec)) fnExactMakePlayUptoCard
end Rows
end Go.Proofs.YtmkdbahdhobdjaaDoor
