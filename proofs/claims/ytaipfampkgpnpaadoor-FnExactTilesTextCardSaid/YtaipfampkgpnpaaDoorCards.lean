/-
  DERIVED. GIVEN WITH THE SEED: THE CARDS: each row of YtaipfampkgpnpaaDoorRows.lean that lists a variable, with what it lists TIED to the program's text (the seventh form; the later family's looks); each row that meets fmt, with fmt's text TOLD by the authors' own Lean function (tested against real Go, not proved from fmt's source: count such statements apart). THE CARD IS WHAT COUNTS. Prove the row's statement (the work); the ties are given (YtaipfampkgpnpaaDoorTie.lean); close each card by the builder's one call (the guide's Derived/Test/ToyasCard.lean, 'card_holds'). Laid BY PROGRAM, IN A SANDBOX (cutbox-door.mjs). By AI agents, Wed Nov 11 2026. No macro, syntax, notation, axiom, sorry.
-/
import Derived.Test.YtaipfampkgpnpaaDoorRows
import GoSem.ClaimSeven
namespace Go.Proofs.YtaipfampkgpnpaaDoor
namespace Rows

/-- THE TIED CARD OF 'laws.FnExactStandardTiles'. -/
def fnExactStandardTilesCard : Claim7 := { stood := { row := fnExactStandardTilesRow, standIns := [], harness := (true, "3b07a7c538cf6278cfb1675c9f1def57fe86dc4b4b80ccc730e4a45abba5de65"), looks := true }, kinds := [], alts := [], laidByText := true, laidKinds := [.data, .data, .data, .sentinel, .sentinel], laidTests := true, laidLooks := .later }
def FnExactStandardTilesCardSaid : Prop := Claim7.holds Tryd.pinned (.plain (OpenSpec.ofChange fnExactStandardTilesSpec)) fnExactStandardTilesCard

/-- THE TIED CARD OF 'laws.FnExactTilesText'. -/
def fnExactTilesTextCard : Claim7 := { stood := { row := fnExactTilesTextRow, standIns := [], harness := (true, "3b07a7c538cf6278cfb1675c9f1def57fe86dc4b4b80ccc730e4a45abba5de65"), looks := true }, kinds := [], alts := [], laidByText := true, laidKinds := [.data, .data, .data], laidTests := true, laidLooks := .later }
def FnExactTilesTextCardSaid : Prop := Claim7.holds Tryd.pinned (.plain (OpenSpec.ofChange fnExactTilesTextSpec)) fnExactTilesTextCard

/-- THE TIED CARD OF 'laws.FnExactReadTiles'. -/
def fnExactReadTilesCard : Claim7 := { stood := { row := fnExactReadTilesRow, standIns := [], harness := (true, "3b07a7c538cf6278cfb1675c9f1def57fe86dc4b4b80ccc730e4a45abba5de65"), looks := true }, kinds := [], alts := [], laidByText := true, laidKinds := [.data, .data, .data, .sentinel, .sentinel], laidTests := true, laidLooks := .later }
def FnExactReadTilesCardSaid : Prop := Claim7.holds Tryd.pinned (.plain (OpenSpec.ofChange fnExactReadTilesSpec)) fnExactReadTilesCard

/-- THE SECOND FORM's CARD OF 'laws.FnExactStandardTiles'. -/
def fnExactStandardTilesUptoCard : Claim7 := { stood := { row := fnExactStandardTilesUptoRow, standIns := [], harness := (true, "3b07a7c538cf6278cfb1675c9f1def57fe86dc4b4b80ccc730e4a45abba5de65"), looks := true }, kinds := [], alts := [], laidByText := true, laidKinds := [.data, .data, .data, .sentinel, .sentinel], laidTests := true, laidLooks := .later }
def FnExactStandardTilesUptoCardSaid : Prop := Claim7.holds Tryd.pinned (.plain (OpenSpec.upto fnExactStandardTilesSpec)) fnExactStandardTilesUptoCard

/-- THE SECOND FORM's CARD OF 'laws.FnExactTilesText'. -/
def fnExactTilesTextUptoCard : Claim7 := { stood := { row := fnExactTilesTextUptoRow, standIns := [], harness := (true, "3b07a7c538cf6278cfb1675c9f1def57fe86dc4b4b80ccc730e4a45abba5de65"), looks := true }, kinds := [], alts := [], laidByText := true, laidKinds := [.data, .data, .data], laidTests := true, laidLooks := .later }
def FnExactTilesTextUptoCardSaid : Prop := Claim7.holds Tryd.pinned (.plain (OpenSpec.upto fnExactTilesTextSpec)) fnExactTilesTextUptoCard

/-- THE SECOND FORM's CARD OF 'laws.FnExactReadTiles'. -/
def fnExactReadTilesUptoCard : Claim7 := { stood := { row := fnExactReadTilesUptoRow, standIns := [], harness := (true, "3b07a7c538cf6278cfb1675c9f1def57fe86dc4b4b80ccc730e4a45abba5de65"), looks := true }, kinds := [], alts := [], laidByText := true, laidKinds := [.data, .data, .data, .sentinel, .sentinel], laidTests := true, laidLooks := .later }
def FnExactReadTilesUptoCardSaid : Prop := Claim7.holds Tryd.pinned (.plain (OpenSpec.upto fnExactReadTilesSpec)) fnExactReadTilesUptoCard
end Rows
end Go.Proofs.YtaipfampkgpnpaaDoor
