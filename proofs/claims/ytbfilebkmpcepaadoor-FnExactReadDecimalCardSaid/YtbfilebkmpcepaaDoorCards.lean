/-
  DERIVED. GIVEN WITH THE SEED: THE CARDS: each row of YtbfilebkmpcepaaDoorRows.lean that lists a variable, with what it lists TIED to the program's text (the seventh form; the later family's looks); each row that meets fmt, with fmt's text TOLD by the authors' own Lean function (tested against real Go, not proved from fmt's source: count such statements apart). THE CARD IS WHAT COUNTS. Prove the row's statement (the work); the ties are given (YtbfilebkmpcepaaDoorTie.lean); close each card by the builder's one call (the guide's Derived/Test/ToyasCard.lean, 'card_holds'). Laid BY PROGRAM, IN A SANDBOX (cutbox-door.mjs). By AI agents, Wed Nov 11 2026. No macro, syntax, notation, axiom, sorry.
-/
import Derived.Test.YtbfilebkmpcepaaDoorRows
import GoSem.ClaimSeven
namespace Go.Proofs.YtbfilebkmpcepaaDoor
namespace Rows

/-- THE TIED CARD OF 'laws.FnExactCodeName'. -/
def fnExactCodeNameCard : Claim7 := { stood := { row := fnExactCodeNameRow, standIns := [], harness := (true, "27786b8c6b8236ebfd18c9d92f02c2d136447bd7c903047173c0e6585bb40fc5"), looks := true }, kinds := [], alts := [], laidByText := true, laidKinds := [.data], laidTests := true, laidLooks := .later }
def FnExactCodeNameCardSaid : Prop := Claim7.holds Tryd.pinned (.plain (OpenSpec.ofChange fnExactCodeNameSpec)) fnExactCodeNameCard

/-- THE TIED CARD OF 'laws.FnExactDecimal'. -/
def fnExactDecimalCard : Claim7 := { stood := { row := fnExactDecimalRow, standIns := [], harness := (true, "27786b8c6b8236ebfd18c9d92f02c2d136447bd7c903047173c0e6585bb40fc5"), looks := true }, kinds := [], alts := [], laidByText := true, laidKinds := [.data, .data, .data], laidTests := true, laidLooks := .later }
def FnExactDecimalCardSaid : Prop := Claim7.holds Tryd.pinned (.plain (OpenSpec.ofChange fnExactDecimalSpec)) fnExactDecimalCard

/-- THE TIED CARD OF 'laws.FnExactReadDecimal'. -/
def fnExactReadDecimalCard : Claim7 := { stood := { row := fnExactReadDecimalRow, standIns := [], harness := (true, "27786b8c6b8236ebfd18c9d92f02c2d136447bd7c903047173c0e6585bb40fc5"), looks := true }, kinds := [], alts := [], laidByText := true, laidKinds := [.data, .data, .data, .sentinel, .sentinel], laidTests := true, laidLooks := .later }
def FnExactReadDecimalCardSaid : Prop := Claim7.holds Tryd.pinned (.plain (OpenSpec.ofChange fnExactReadDecimalSpec)) fnExactReadDecimalCard

/-- THE TIED CARD OF 'laws.FnExactStandardTiles'. -/
def fnExactStandardTilesCard : Claim7 := { stood := { row := fnExactStandardTilesRow, standIns := [], harness := (true, "27786b8c6b8236ebfd18c9d92f02c2d136447bd7c903047173c0e6585bb40fc5"), looks := true }, kinds := [], alts := [], laidByText := true, laidKinds := [.data, .data, .data, .sentinel, .sentinel], laidTests := true, laidLooks := .later }
def FnExactStandardTilesCardSaid : Prop := Claim7.holds Tryd.pinned (.plain (OpenSpec.ofChange fnExactStandardTilesSpec)) fnExactStandardTilesCard

/-- THE TIED CARD OF 'laws.FnExactTilesText'. -/
def fnExactTilesTextCard : Claim7 := { stood := { row := fnExactTilesTextRow, standIns := [], harness := (true, "27786b8c6b8236ebfd18c9d92f02c2d136447bd7c903047173c0e6585bb40fc5"), looks := true }, kinds := [], alts := [], laidByText := true, laidKinds := [.data, .data, .data], laidTests := true, laidLooks := .later }
def FnExactTilesTextCardSaid : Prop := Claim7.holds Tryd.pinned (.plain (OpenSpec.ofChange fnExactTilesTextSpec)) fnExactTilesTextCard

/-- THE TIED CARD OF 'laws.FnExactReadTiles'. -/
def fnExactReadTilesCard : Claim7 := { stood := { row := fnExactReadTilesRow, standIns := [], harness := (true, "27786b8c6b8236ebfd18c9d92f02c2d136447bd7c903047173c0e6585bb40fc5"), looks := true }, kinds := [], alts := [], laidByText := true, laidKinds := [.data, .data, .data, .sentinel, .sentinel], laidTests := true, laidLooks := .later }
def FnExactReadTilesCardSaid : Prop := Claim7.holds Tryd.pinned (.plain (OpenSpec.ofChange fnExactReadTilesSpec)) fnExactReadTilesCard

/-- THE SECOND FORM's CARD OF 'laws.FnExactCodeName'. -/
def fnExactCodeNameUptoCard : Claim7 := { stood := { row := fnExactCodeNameUptoRow, standIns := [], harness := (true, "27786b8c6b8236ebfd18c9d92f02c2d136447bd7c903047173c0e6585bb40fc5"), looks := true }, kinds := [], alts := [], laidByText := true, laidKinds := [.data], laidTests := true, laidLooks := .later }
def FnExactCodeNameUptoCardSaid : Prop := Claim7.holds Tryd.pinned (.plain (OpenSpec.upto fnExactCodeNameSpec)) fnExactCodeNameUptoCard

/-- THE SECOND FORM's CARD OF 'laws.FnExactDecimal'. -/
def fnExactDecimalUptoCard : Claim7 := { stood := { row := fnExactDecimalUptoRow, standIns := [], harness := (true, "27786b8c6b8236ebfd18c9d92f02c2d136447bd7c903047173c0e6585bb40fc5"), looks := true }, kinds := [], alts := [], laidByText := true, laidKinds := [.data, .data, .data], laidTests := true, laidLooks := .later }
def FnExactDecimalUptoCardSaid : Prop := Claim7.holds Tryd.pinned (.plain (OpenSpec.upto fnExactDecimalSpec)) fnExactDecimalUptoCard

/-- THE SECOND FORM's CARD OF 'laws.FnExactReadDecimal'. -/
def fnExactReadDecimalUptoCard : Claim7 := { stood := { row := fnExactReadDecimalUptoRow, standIns := [], harness := (true, "27786b8c6b8236ebfd18c9d92f02c2d136447bd7c903047173c0e6585bb40fc5"), looks := true }, kinds := [], alts := [], laidByText := true, laidKinds := [.data, .data, .data, .sentinel, .sentinel], laidTests := true, laidLooks := .later }
def FnExactReadDecimalUptoCardSaid : Prop := Claim7.holds Tryd.pinned (.plain (OpenSpec.upto fnExactReadDecimalSpec)) fnExactReadDecimalUptoCard

/-- THE SECOND FORM's CARD OF 'laws.FnExactStandardTiles'. -/
def fnExactStandardTilesUptoCard : Claim7 := { stood := { row := fnExactStandardTilesUptoRow, standIns := [], harness := (true, "27786b8c6b8236ebfd18c9d92f02c2d136447bd7c903047173c0e6585bb40fc5"), looks := true }, kinds := [], alts := [], laidByText := true, laidKinds := [.data, .data, .data, .sentinel, .sentinel], laidTests := true, laidLooks := .later }
def FnExactStandardTilesUptoCardSaid : Prop := Claim7.holds Tryd.pinned (.plain (OpenSpec.upto fnExactStandardTilesSpec)) fnExactStandardTilesUptoCard

/-- THE SECOND FORM's CARD OF 'laws.FnExactTilesText'. -/
def fnExactTilesTextUptoCard : Claim7 := { stood := { row := fnExactTilesTextUptoRow, standIns := [], harness := (true, "27786b8c6b8236ebfd18c9d92f02c2d136447bd7c903047173c0e6585bb40fc5"), looks := true }, kinds := [], alts := [], laidByText := true, laidKinds := [.data, .data, .data], laidTests := true, laidLooks := .later }
def FnExactTilesTextUptoCardSaid : Prop := Claim7.holds Tryd.pinned (.plain (OpenSpec.upto fnExactTilesTextSpec)) fnExactTilesTextUptoCard

/-- THE SECOND FORM's CARD OF 'laws.FnExactReadTiles'. -/
def fnExactReadTilesUptoCard : Claim7 := { stood := { row := fnExactReadTilesUptoRow, standIns := [], harness := (true, "27786b8c6b8236ebfd18c9d92f02c2d136447bd7c903047173c0e6585bb40fc5"), looks := true }, kinds := [], alts := [], laidByText := true, laidKinds := [.data, .data, .data, .sentinel, .sentinel], laidTests := true, laidLooks := .later }
def FnExactReadTilesUptoCardSaid : Prop := Claim7.holds Tryd.pinned (.plain (OpenSpec.upto fnExactReadTilesSpec)) fnExactReadTilesUptoCard
end Rows
end Go.Proofs.YtbfilebkmpcepaaDoor
