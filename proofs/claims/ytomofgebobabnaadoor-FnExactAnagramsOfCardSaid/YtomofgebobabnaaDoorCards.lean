/-
  DERIVED. GIVEN WITH THE SEED: THE CARDS: each row of YtomofgebobabnaaDoorRows.lean that lists a variable, with what it lists TIED to the program's text (the seventh form; the later family's looks); each row that meets fmt, with fmt's text TOLD by the authors' own Lean function (tested against real Go, not proved from fmt's source: count such statements apart). THE CARD IS WHAT COUNTS. Prove the row's statement (the work); the ties are given (YtomofgebobabnaaDoorTie.lean); close each card by the builder's one call (the guide's Derived/Test/ToyasCard.lean, 'card_holds'). Laid BY PROGRAM, IN A SANDBOX (cutbox-door.mjs). By AI agents, Wed Nov 11 2026. No macro, syntax, notation, axiom, sorry.
-/
import Derived.Test.YtomofgebobabnaaDoorRows
import GoSem.ClaimSeven
namespace Go.Proofs.YtomofgebobabnaaDoor
namespace Rows

/-- THE TIED CARD OF 'laws.FnAnagrams'. -/
def fnAnagramsCard : Claim7 := { stood := { row := fnAnagramsRow, standIns := [], harness := (true, "bdba6bc070b280ef8049059c495c82b8d13fef4581ab2d7af5d33d9f8fd0455c"), looks := false }, kinds := [], alts := [], laidByText := true, laidKinds := [.data, .pinned], laidTests := true, laidLooks := .later }
def FnAnagramsCardSaid : Prop := Claim7.holds Tryd.pinned (.plain (OpenSpec.ofChange fnAnagramsSpec)) fnAnagramsCard

/-- THE TIED CARD OF 'laws.FnExactAnagramsOf'. -/
def fnExactAnagramsOfCard : Claim7 := { stood := { row := fnExactAnagramsOfRow, standIns := [], harness := (true, "bdba6bc070b280ef8049059c495c82b8d13fef4581ab2d7af5d33d9f8fd0455c"), looks := false }, kinds := [], alts := [], laidByText := true, laidKinds := [.data, .pinned], laidTests := true, laidLooks := .later }
def FnExactAnagramsOfCardSaid : Prop := Claim7.holds Tryd.pinned (.plain (OpenSpec.ofChange fnExactAnagramsOfSpec)) fnExactAnagramsOfCard

/-- THE SECOND FORM's CARD OF 'laws.FnAnagrams'. -/
def fnAnagramsUptoCard : Claim7 := { stood := { row := fnAnagramsUptoRow, standIns := [], harness := (true, "bdba6bc070b280ef8049059c495c82b8d13fef4581ab2d7af5d33d9f8fd0455c"), looks := false }, kinds := [], alts := [], laidByText := true, laidKinds := [.data, .pinned], laidTests := true, laidLooks := .later }
def FnAnagramsUptoCardSaid : Prop := Claim7.holds Tryd.pinned (.plain (OpenSpec.upto fnAnagramsSpec)) fnAnagramsUptoCard

/-- THE SECOND FORM's CARD OF 'laws.FnExactAnagramsOf'. -/
def fnExactAnagramsOfUptoCard : Claim7 := { stood := { row := fnExactAnagramsOfUptoRow, standIns := [], harness := (true, "bdba6bc070b280ef8049059c495c82b8d13fef4581ab2d7af5d33d9f8fd0455c"), looks := false }, kinds := [], alts := [], laidByText := true, laidKinds := [.data, .pinned], laidTests := true, laidLooks := .later }
def FnExactAnagramsOfUptoCardSaid : Prop := Claim7.holds Tryd.pinned (.plain (OpenSpec.upto fnExactAnagramsOfSpec)) fnExactAnagramsOfUptoCard
end Rows
end Go.Proofs.YtomofgebobabnaaDoor
