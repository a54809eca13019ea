/-
  DERIVED. GIVEN WITH THE SEED: THE CARDS: each row of YtdleinognmdfmaaDoorRows.lean that lists a variable, with what it lists TIED to the program's text (the seventh form; the later family's looks); each row that meets fmt, with fmt's text TOLD by the authors' own Lean function (tested against real Go, not proved from fmt's source: count such statements apart). THE CARD IS WHAT COUNTS. Prove the row's statement (the work); the ties are given (YtdleinognmdfmaaDoorTie.lean); close each card by the builder's one call (the guide's Derived/Test/ToyasCard.lean, 'card_holds'). Laid BY PROGRAM, IN A SANDBOX (cutbox-door.mjs). By AI agents, Wed Nov 11 2026. No macro, syntax, notation, axiom, sorry.
-/
import Derived.Test.YtdleinognmdfmaaDoorRows
import GoSem.ClaimSeven
namespace Go.Proofs.YtdleinognmdfmaaDoor
namespace Rows

/-- THE TIED CARD OF 'laws.FnAnagrams'. -/
def fnAnagramsCard : Claim7 := { stood := { row := fnAnagramsRow, standIns := [], harness := (true, "f694eaf0fe33173f6e3e0bea647ad99bc3075f9c69f762a9dc8f295de1db30da"), looks := false }, kinds := [], alts := [], laidByText := true, laidKinds := [.data, .pinned], laidTests := true, laidLooks := .later }
def FnAnagramsCardSaid : Prop := Claim7.holds Tryd.pinned (.plain (OpenSpec.ofChange fnAnagramsSpec)) fnAnagramsCard

/-- THE SECOND FORM's CARD OF 'laws.FnAnagrams'. -/
def fnAnagramsUptoCard : Claim7 := { stood := { row := fnAnagramsUptoRow, standIns := [], harness := (true, "f694eaf0fe33173f6e3e0bea647ad99bc3075f9c69f762a9dc8f295de1db30da"), looks := false }, kinds := [], alts := [], laidByText := true, laidKinds := [.data, .pinned], laidTests := true, laidLooks := .later }
def FnAnagramsUptoCardSaid : Prop := Claim7.holds Tryd.pinned (.plain (OpenSpec.upto fnAnagramsSpec)) fnAnagramsUptoCard
end Rows
end Go.Proofs.YtdleinognmdfmaaDoor
