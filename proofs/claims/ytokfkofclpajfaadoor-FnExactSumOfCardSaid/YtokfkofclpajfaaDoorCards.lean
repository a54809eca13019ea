/-
  DERIVED. GIVEN WITH THE SEED: THE CARDS: each row of YtokfkofclpajfaaDoorRows.lean that lists a variable, with what it lists TIED to the program's text (the seventh form; the later family's looks); each row that meets fmt, with fmt's text TOLD by the authors' own Lean function (tested against real Go, not proved from fmt's source: count such statements apart). THE CARD IS WHAT COUNTS. Prove the row's statement (the work); the ties are given (YtokfkofclpajfaaDoorTie.lean); close each card by the builder's one call (the guide's Derived/Test/ToyasCard.lean, 'card_holds'). Laid BY PROGRAM, IN A SANDBOX (cutbox-door.mjs). By AI agents, Wed Nov 11 2026. No macro, syntax, notation, axiom, sorry.
-/
import Derived.Test.YtokfkofclpajfaaDoorRows
import GoSem.ClaimSeven
namespace Go.Proofs.YtokfkofclpajfaaDoor
namespace Rows

/-- THE TIED CARD OF 'laws.FnExactValidDawg'. -/
def fnExactValidDawgCard : Claim7 := { stood := { row := fnExactValidDawgRow, standIns := [], harness := (true, "36fc0f842b9304d540fb28388f3835dfa2980560c7e166924859091ca0e90497"), looks := false }, kinds := [], alts := [], laidByText := true, laidKinds := [.data, .data, .data], laidTests := true, laidLooks := .later }
def FnExactValidDawgCardSaid : Prop := Claim7.holds Tryd.pinned (.plain (OpenSpec.ofChange fnExactValidDawgSpec)) fnExactValidDawgCard

/-- THE TIED CARD OF 'laws.FnExactStepDawg'. -/
def fnExactStepDawgCard : Claim7 := { stood := { row := fnExactStepDawgRow, standIns := [], harness := (true, "36fc0f842b9304d540fb28388f3835dfa2980560c7e166924859091ca0e90497"), looks := false }, kinds := [], alts := [], laidByText := true, laidKinds := [.data, .data, .data], laidTests := true, laidLooks := .later }
def FnExactStepDawgCardSaid : Prop := Claim7.holds Tryd.pinned (.plain (OpenSpec.ofChange fnExactStepDawgSpec)) fnExactStepDawgCard

/-- THE TIED CARD OF 'laws.FnExactNodeAfter'. -/
def fnExactNodeAfterCard : Claim7 := { stood := { row := fnExactNodeAfterRow, standIns := [], harness := (true, "36fc0f842b9304d540fb28388f3835dfa2980560c7e166924859091ca0e90497"), looks := false }, kinds := [], alts := [], laidByText := true, laidKinds := [.data, .data, .data], laidTests := true, laidLooks := .later }
def FnExactNodeAfterCardSaid : Prop := Claim7.holds Tryd.pinned (.plain (OpenSpec.ofChange fnExactNodeAfterSpec)) fnExactNodeAfterCard

/-- THE TIED CARD OF 'laws.FnExactAcceptsWord'. -/
def fnExactAcceptsWordCard : Claim7 := { stood := { row := fnExactAcceptsWordRow, standIns := [], harness := (true, "36fc0f842b9304d540fb28388f3835dfa2980560c7e166924859091ca0e90497"), looks := false }, kinds := [], alts := [], laidByText := true, laidKinds := [.data, .data, .data], laidTests := true, laidLooks := .later }
def FnExactAcceptsWordCardSaid : Prop := Claim7.holds Tryd.pinned (.plain (OpenSpec.ofChange fnExactAcceptsWordSpec)) fnExactAcceptsWordCard

/-- THE TIED CARD OF 'laws.FnExactWordsOf'. -/
def fnExactWordsOfCard : Claim7 := { stood := { row := fnExactWordsOfRow, standIns := [], harness := (true, "36fc0f842b9304d540fb28388f3835dfa2980560c7e166924859091ca0e90497"), looks := false }, kinds := [], alts := [], laidByText := true, laidKinds := [.data, .data, .data], laidTests := true, laidLooks := .later }
def FnExactWordsOfCardSaid : Prop := Claim7.holds Tryd.pinned (.plain (OpenSpec.ofChange fnExactWordsOfSpec)) fnExactWordsOfCard

/-- THE TIED CARD OF 'laws.FnExactLexiconOf'. -/
def fnExactLexiconOfCard : Claim7 := { stood := { row := fnExactLexiconOfRow, standIns := [], harness := (true, "36fc0f842b9304d540fb28388f3835dfa2980560c7e166924859091ca0e90497"), looks := false }, kinds := [], alts := [], laidByText := true, laidKinds := [.data, .data, .data], laidTests := true, laidLooks := .later }
def FnExactLexiconOfCardSaid : Prop := Claim7.holds Tryd.pinned (.plain (OpenSpec.ofChange fnExactLexiconOfSpec)) fnExactLexiconOfCard

/-- THE TIED CARD OF 'laws.FnExactEdgeCount'. -/
def fnExactEdgeCountCard : Claim7 := { stood := { row := fnExactEdgeCountRow, standIns := [], harness := (true, "36fc0f842b9304d540fb28388f3835dfa2980560c7e166924859091ca0e90497"), looks := false }, kinds := [], alts := [], laidByText := true, laidKinds := [.data, .data, .data], laidTests := true, laidLooks := .later }
def FnExactEdgeCountCardSaid : Prop := Claim7.holds Tryd.pinned (.plain (OpenSpec.ofChange fnExactEdgeCountSpec)) fnExactEdgeCountCard

/-- THE TIED CARD OF 'laws.FnExactLongestWord'. -/
def fnExactLongestWordCard : Claim7 := { stood := { row := fnExactLongestWordRow, standIns := [], harness := (true, "36fc0f842b9304d540fb28388f3835dfa2980560c7e166924859091ca0e90497"), looks := false }, kinds := [], alts := [], laidByText := true, laidKinds := [.data, .data, .data], laidTests := true, laidLooks := .later }
def FnExactLongestWordCardSaid : Prop := Claim7.holds Tryd.pinned (.plain (OpenSpec.ofChange fnExactLongestWordSpec)) fnExactLongestWordCard

/-- THE TIED CARD OF 'laws.FnExactDawgText'. -/
def fnExactDawgTextCard : Claim7 := { stood := { row := fnExactDawgTextRow, standIns := [], harness := (true, "36fc0f842b9304d540fb28388f3835dfa2980560c7e166924859091ca0e90497"), looks := false }, kinds := [], alts := [], laidByText := true, laidKinds := [.data, .data, .data], laidTests := true, laidLooks := .later }
def FnExactDawgTextCardSaid : Prop := Claim7.holds Tryd.pinned (.plain (OpenSpec.ofChange fnExactDawgTextSpec)) fnExactDawgTextCard

/-- THE TIED CARD OF 'laws.FnExactCountsOf'. -/
def fnExactCountsOfCard : Claim7 := { stood := { row := fnExactCountsOfRow, standIns := [], harness := (true, "36fc0f842b9304d540fb28388f3835dfa2980560c7e166924859091ca0e90497"), looks := false }, kinds := [], alts := [], laidByText := true, laidKinds := [.data, .data, .data], laidTests := true, laidLooks := .later }
def FnExactCountsOfCardSaid : Prop := Claim7.holds Tryd.pinned (.plain (OpenSpec.ofChange fnExactCountsOfSpec)) fnExactCountsOfCard

/-- THE TIED CARD OF 'laws.FnExactNumberOf'. -/
def fnExactNumberOfCard : Claim7 := { stood := { row := fnExactNumberOfRow, standIns := [], harness := (true, "36fc0f842b9304d540fb28388f3835dfa2980560c7e166924859091ca0e90497"), looks := false }, kinds := [], alts := [], laidByText := true, laidKinds := [.data, .data, .data], laidTests := true, laidLooks := .later }
def FnExactNumberOfCardSaid : Prop := Claim7.holds Tryd.pinned (.plain (OpenSpec.ofChange fnExactNumberOfSpec)) fnExactNumberOfCard

/-- THE TIED CARD OF 'laws.FnExactWordAt'. -/
def fnExactWordAtCard : Claim7 := { stood := { row := fnExactWordAtRow, standIns := [], harness := (true, "36fc0f842b9304d540fb28388f3835dfa2980560c7e166924859091ca0e90497"), looks := false }, kinds := [], alts := [], laidByText := true, laidKinds := [.data, .data, .data], laidTests := true, laidLooks := .later }
def FnExactWordAtCardSaid : Prop := Claim7.holds Tryd.pinned (.plain (OpenSpec.ofChange fnExactWordAtSpec)) fnExactWordAtCard

/-- THE TIED CARD OF 'laws.FnExactRangeOf'. -/
def fnExactRangeOfCard : Claim7 := { stood := { row := fnExactRangeOfRow, standIns := [], harness := (true, "36fc0f842b9304d540fb28388f3835dfa2980560c7e166924859091ca0e90497"), looks := false }, kinds := [], alts := [], laidByText := true, laidKinds := [.data, .data, .data], laidTests := true, laidLooks := .later }
def FnExactRangeOfCardSaid : Prop := Claim7.holds Tryd.pinned (.plain (OpenSpec.ofChange fnExactRangeOfSpec)) fnExactRangeOfCard

/-- THE TIED CARD OF 'laws.FnExactNextWord'. -/
def fnExactNextWordCard : Claim7 := { stood := { row := fnExactNextWordRow, standIns := [], harness := (true, "36fc0f842b9304d540fb28388f3835dfa2980560c7e166924859091ca0e90497"), looks := false }, kinds := [], alts := [], laidByText := true, laidKinds := [.data, .data, .data], laidTests := true, laidLooks := .later }
def FnExactNextWordCardSaid : Prop := Claim7.holds Tryd.pinned (.plain (OpenSpec.ofChange fnExactNextWordSpec)) fnExactNextWordCard

/-- THE TIED CARD OF 'laws.FnExactBucketOf'. -/
def fnExactBucketOfCard : Claim7 := { stood := { row := fnExactBucketOfRow, standIns := [], harness := (true, "36fc0f842b9304d540fb28388f3835dfa2980560c7e166924859091ca0e90497"), looks := false }, kinds := [], alts := [], laidByText := true, laidKinds := [.data, .data, .data], laidTests := true, laidLooks := .later }
def FnExactBucketOfCardSaid : Prop := Claim7.holds Tryd.pinned (.plain (OpenSpec.ofChange fnExactBucketOfSpec)) fnExactBucketOfCard

/-- THE TIED CARD OF 'laws.FnExactSumOf'. -/
def fnExactSumOfCard : Claim7 := { stood := { row := fnExactSumOfRow, standIns := [], harness := (true, "36fc0f842b9304d540fb28388f3835dfa2980560c7e166924859091ca0e90497"), looks := false }, kinds := [], alts := [], laidByText := true, laidKinds := [.data, .data, .data], laidTests := true, laidLooks := .later }
def FnExactSumOfCardSaid : Prop := Claim7.holds Tryd.pinned (.plain (OpenSpec.ofChange fnExactSumOfSpec)) fnExactSumOfCard

/-- THE SECOND FORM's CARD OF 'laws.FnExactValidDawg'. -/
def fnExactValidDawgUptoCard : Claim7 := { stood := { row := fnExactValidDawgUptoRow, standIns := [], harness := (true, "36fc0f842b9304d540fb28388f3835dfa2980560c7e166924859091ca0e90497"), looks := false }, kinds := [], alts := [], laidByText := true, laidKinds := [.data, .data, .data], laidTests := true, laidLooks := .later }
def FnExactValidDawgUptoCardSaid : Prop := Claim7.holds Tryd.pinned (.plain (OpenSpec.upto fnExactValidDawgSpec)) fnExactValidDawgUptoCard

/-- THE SECOND FORM's CARD OF 'laws.FnExactStepDawg'. -/
def fnExactStepDawgUptoCard : Claim7 := { stood := { row := fnExactStepDawgUptoRow, standIns := [], harness := (true, "36fc0f842b9304d540fb28388f3835dfa2980560c7e166924859091ca0e90497"), looks := false }, kinds := [], alts := [], laidByText := true, laidKinds := [.data, .data, .data], laidTests := true, laidLooks := .later }
def FnExactStepDawgUptoCardSaid : Prop := Claim7.holds Tryd.pinned (.plain (OpenSpec.upto fnExactStepDawgSpec)) fnExactStepDawgUptoCard

/-- THE SECOND FORM's CARD OF 'laws.FnExactNodeAfter'. -/
def fnExactNodeAfterUptoCard : Claim7 := { stood := { row := fnExactNodeAfterUptoRow, standIns := [], harness := (true, "36fc0f842b9304d540fb28388f3835dfa2980560c7e166924859091ca0e90497"), looks := false }, kinds := [], alts := [], laidByText := true, laidKinds := [.data, .data, .data], laidTests := true, laidLooks := .later }
def FnExactNodeAfterUptoCardSaid : Prop := Claim7.holds Tryd.pinned (.plain (OpenSpec.upto fnExactNodeAfterSpec)) fnExactNodeAfterUptoCard

/-- THE SECOND FORM's CARD OF 'laws.FnExactAcceptsWord'. -/
def fnExactAcceptsWordUptoCard : Claim7 := { stood := { row := fnExactAcceptsWordUptoRow, standIns := [], harness := (true, "36fc0f842b9304d540fb28388f3835dfa2980560c7e166924859091ca0e90497"), looks := false }, kinds := [], alts := [], laidByText := true, laidKinds := [.data, .data, .data], laidTests := true, laidLooks := .later }
def FnExactAcceptsWordUptoCardSaid : Prop := Claim7.holds Tryd.pinned (.plain (OpenSpec.upto fnExactAcceptsWordSpec)) fnExactAcceptsWordUptoCard

/-- THE SECOND FORM's CARD OF 'laws.FnExactWordsOf'. -/
def fnExactWordsOfUptoCard : Claim7 := { stood := { row := fnExactWordsOfUptoRow, standIns := [], harness := (true, "36fc0f842b9304d540fb28388f3835dfa2980560c7e166924859091ca0e90497"), looks := false }, kinds := [], alts := [], laidByText := true, laidKinds := [.data, .data, .data], laidTests := true, laidLooks := .later }
def FnExactWordsOfUptoCardSaid : Prop := Claim7.holds Tryd.pinned (.plain (OpenSpec.upto fnExactWordsOfSpec)) fnExactWordsOfUptoCard

/-- THE SECOND FORM's CARD OF 'laws.FnExactLexiconOf'. -/
def fnExactLexiconOfUptoCard : Claim7 := { stood := { row := fnExactLexiconOfUptoRow, standIns := [], harness := (true, "36fc0f842b9304d540fb28388f3835dfa2980560c7e166924859091ca0e90497"), looks := false }, kinds := [], alts := [], laidByText := true, laidKinds := [.data, .data, .data], laidTests := true, laidLooks := .later }
def FnExactLexiconOfUptoCardSaid : Prop := Claim7.holds Tryd.pinned (.plain (OpenSpec.upto fnExactLexiconOfSpec)) fnExactLexiconOfUptoCard

/-- THE SECOND FORM's CARD OF 'laws.FnExactEdgeCount'. -/
def fnExactEdgeCountUptoCard : Claim7 := { stood := { row := fnExactEdgeCountUptoRow, standIns := [], harness := (true, "36fc0f842b9304d540fb28388f3835dfa2980560c7e166924859091ca0e90497"), looks := false }, kinds := [], alts := [], laidByText := true, laidKinds := [.data, .data, .data], laidTests := true, laidLooks := .later }
def FnExactEdgeCountUptoCardSaid : Prop := Claim7.holds Tryd.pinned (.plain (OpenSpec.upto fnExactEdgeCountSpec)) fnExactEdgeCountUptoCard

/-- THE SECOND FORM's CARD OF 'laws.FnExactLongestWord'. -/
def fnExactLongestWordUptoCard : Claim7 := { stood := { row := fnExactLongestWordUptoRow, standIns := [], harness := (true, "36fc0f842b9304d540fb28388f3835dfa2980560c7e166924859091ca0e90497"), looks := false }, kinds := [], alts := [], laidByText := true, laidKinds := [.data, .data, .data], laidTests := true, laidLooks := .later }
def FnExactLongestWordUptoCardSaid : Prop := Claim7.holds Tryd.pinned (.plain (OpenSpec.upto fnExactLongestWordSpec)) fnExactLongestWordUptoCard

/-- THE SECOND FORM's CARD OF 'laws.FnExactDawgText'. -/
def fnExactDawgTextUptoCard : Claim7 := { stood := { row := fnExactDawgTextUptoRow, standIns := [], harness := (true, "36fc0f842b9304d540fb28388f3835dfa2980560c7e166924859091ca0e90497"), looks := false }, kinds := [], alts := [], laidByText := true, laidKinds := [.data, .data, .data], laidTests := true, laidLooks := .later }
def FnExactDawgTextUptoCardSaid : Prop := Claim7.holds Tryd.pinned (.plain (OpenSpec.upto fnExactDawgTextSpec)) fnExactDawgTextUptoCard

/-- THE SECOND FORM's CARD OF 'laws.FnExactCountsOf'. -/
def fnExactCountsOfUptoCard : Claim7 := { stood := { row := fnExactCountsOfUptoRow, standIns := [], harness := (true, "36fc0f842b9304d540fb28388f3835dfa2980560c7e166924859091ca0e90497"), looks := false }, kinds := [], alts := [], laidByText := true, laidKinds := [.data, .data, .data], laidTests := true, laidLooks := .later }
def FnExactCountsOfUptoCardSaid : Prop := Claim7.holds Tryd.pinned (.plain (OpenSpec.upto fnExactCountsOfSpec)) fnExactCountsOfUptoCard

/-- THE SECOND FORM's CARD OF 'laws.FnExactNumberOf'. -/
def fnExactNumberOfUptoCard : Claim7 := { stood := { row := fnExactNumberOfUptoRow, standIns := [], harness := (true, "36fc0f842b9304d540fb28388f3835dfa2980560c7e166924859091ca0e90497"), looks := false }, kinds := [], alts := [], laidByText := true, laidKinds := [.data, .data, .data], laidTests := true, laidLooks := .later }
def FnExactNumberOfUptoCardSaid : Prop := Claim7.holds Tryd.pinned (.plain (OpenSpec.upto fnExactNumberOfSpec)) fnExactNumberOfUptoCard

/-- THE SECOND FORM's CARD OF 'laws.FnExactWordAt'. -/
def fnExactWordAtUptoCard : Claim7 := { stood := { row := fnExactWordAtUptoRow, standIns := [], harness := (true, "36fc0f842b9304d540fb28388f3835dfa2980560c7e166924859091ca0e90497"), looks := false }, kinds := [], alts := [], laidByText := true, laidKinds := [.data, .data, .data], laidTests := true, laidLooks := .later }
def FnExactWordAtUptoCardSaid : Prop := Claim7.holds Tryd.pinned (.plain (OpenSpec.upto fnExactWordAtSpec)) fnExactWordAtUptoCard

/-- THE SECOND FORM's CARD OF 'laws.FnExactRangeOf'. -/
def fnExactRangeOfUptoCard : Claim7 := { stood := { row := fnExactRangeOfUptoRow, standIns := [], harness := (true, "36fc0f842b9304d540fb28388f3835dfa2980560c7e166924859091ca0e90497"), looks := false }, kinds := [], alts := [], laidByText := true, laidKinds := [.data, .data, .data], laidTests := true, laidLooks := .later }
def FnExactRangeOfUptoCardSaid : Prop := Claim7.holds Tryd.pinned (.plain (OpenSpec.upto fnExactRangeOfSpec)) fnExactRangeOfUptoCard

/-- THE SECOND FORM's CARD OF 'laws.FnExactNextWord'. -/
def fnExactNextWordUptoCard : Claim7 := { stood := { row := fnExactNextWordUptoRow, standIns := [], harness := (true, "36fc0f842b9304d540fb28388f3835dfa2980560c7e166924859091ca0e90497"), looks := false }, kinds := [], alts := [], laidByText := true, laidKinds := [.data, .data, .data], laidTests := true, laidLooks := .later }
def FnExactNextWordUptoCardSaid : Prop := Claim7.holds Tryd.pinned (.plain (OpenSpec.upto fnExactNextWordSpec)) fnExactNextWordUptoCard

/-- THE SECOND FORM's CARD OF 'laws.FnExactBucketOf'. -/
def fnExactBucketOfUptoCard : Claim7 := { stood := { row := fnExactBucketOfUptoRow, standIns := [], harness := (true, "36fc0f842b9304d540fb28388f3835dfa2980560c7e166924859091ca0e90497"), looks := false }, kinds := [], alts := [], laidByText := true, laidKinds := [.data, .data, .data], laidTests := true, laidLooks := .later }
def FnExactBucketOfUptoCardSaid : Prop := Claim7.holds Tryd.pinned (.plain (OpenSpec.upto fnExactBucketOfSpec)) fnExactBucketOfUptoCard

/-- THE SECOND FORM's CARD OF 'laws.FnExactSumOf'. -/
def fnExactSumOfUptoCard : Claim7 := { stood := { row := fnExactSumOfUptoRow, standIns := [], harness := (true, "36fc0f842b9304d540fb28388f3835dfa2980560c7e166924859091ca0e90497"), looks := false }, kinds := [], alts := [], laidByText := true, laidKinds := [.data, .data, .data], laidTests := true, laidLooks := .later }
def FnExactSumOfUptoCardSaid : Prop := Claim7.holds Tryd.pinned (.plain (OpenSpec.upto fnExactSumOfSpec)) fnExactSumOfUptoCard
end Rows
end Go.Proofs.YtokfkofclpajfaaDoor
