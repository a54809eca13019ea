/-
  No cell of these rows narrows 'for every input' (looked for: loops, veiled, ifaces, maps, wideKeys, modest, calm, conditions, laid).
  DERIVED. THE GIVEN ROWS OF THIS SEAT. 16 by the template 'for every input the law returns true; each argument reads behind the call as it read before'; 0 by the template 'total and deterministic' (their statements: YtpjekfebpgjgnaaTotals.lean).
  GIVEN WITH THE SEED: the statements are not yours to turn. If you find one false, say at which input.
  Laid BY PROGRAM, IN A SANDBOX (cutbox-rows.mjs): the forced cells as the released guide's own fill.sh prints them over the translation baea084b7b3a07a6… (all of the seat's roots in one cut). By AI agents, Wed Nov 11 2026. No macro, syntax, notation, axiom, sorry.
-/
import Derived.Test.YtpjekfebpgjgnaaChecked
import GoSem.Claim
import GoSem.ClaimJoined
import GoSem.ClaimMapViews
import Derived.JoinedTies
import Derived.KernelRfl
namespace Go.Proofs.Ytpjekfebpgjgnaa
/- THE CELL 'sum', in the pinned program and in every row, IS THE sha256 OF THE DUMP (.gsa) THAT YtpjekfebpgjgnaaProg.lean LOADS. Nothing in Lean hashes anything: it is a label: what it is worth is what the hold of that sum in a sandbox is worth. -/
noncomputable def Try.pinned : Pinned := { name := "ytpjekfebpgjgnaa", sum := "baea084b7b3a07a6578651975ff5d1c22543b3a4c6c3ecb1c7df355b75283c0a", checked := Try.checked }
namespace Rows
def none {H : Type} : Left H := { results := [], args := [] }

/-- 'laws.FnPatterns': WHATEVER THE INPUT: true; the input reads as it did. -/
def fnPatternsSpec : ChangeSpec := { name := "fnPatterns", fn := fun _ => fun
  | [d] => { results := [.lit (.bool true)], args := [d] }
  | _ => none }
def fnPatternsRow : OpenClaim := { program := "ytpjekfebpgjgnaa", sum := "baea084b7b3a07a6578651975ff5d1c22543b3a4c6c3ecb1c7df355b75283c0a", func := "loop.example/g00911/laws.FnPatterns", spec := "fnPatterns", inPlace := ["internal/bytealg.CountString", "internal/bytealg.IndexByteString", "internal/bytealg.IndexString"], unfollowed := true, recurses := true, named := ["internal/bytealg.MaxLen"], apart := false }
def FnPatternsSaid : Prop := fnPatternsRow.holds Try.pinned (OpenSpec.ofChange fnPatternsSpec)

/-- ITS FALSE NEIGHBOUR: 'it returns false'. Refute it at one input. -/
def fnPatternsWrong : ChangeSpec := { name := "fnPatterns", fn := fun _ => fun
  | [d] => { results := [.lit (.bool false)], args := [d] }
  | _ => none }
def FnPatternsWrongFalsely : Prop := fnPatternsRow.holds Try.pinned (OpenSpec.ofChange fnPatternsWrong)

/-- 'laws.FnHooks': WHATEVER THE INPUT: true; the input reads as it did. -/
def fnHooksSpec : ChangeSpec := { name := "fnHooks", fn := fun _ => fun
  | [d] => { results := [.lit (.bool true)], args := [d] }
  | _ => none }
def fnHooksRow : OpenClaim := { program := "ytpjekfebpgjgnaa", sum := "baea084b7b3a07a6578651975ff5d1c22543b3a4c6c3ecb1c7df355b75283c0a", func := "loop.example/g00911/laws.FnHooks", spec := "fnHooks", inPlace := ["internal/abi.NoEscape"], unfollowed := true, recurses := true, apart := false }
def FnHooksSaid : Prop := fnHooksRow.holds Try.pinned (OpenSpec.ofChange fnHooksSpec)

/-- ITS FALSE NEIGHBOUR: 'it returns false'. Refute it at one input. -/
def fnHooksWrong : ChangeSpec := { name := "fnHooks", fn := fun _ => fun
  | [d] => { results := [.lit (.bool false)], args := [d] }
  | _ => none }
def FnHooksWrongFalsely : Prop := fnHooksRow.holds Try.pinned (OpenSpec.ofChange fnHooksWrong)

/-- 'laws.FnLadders': WHATEVER THE INPUT: true; the input reads as it did. -/
def fnLaddersSpec : ChangeSpec := { name := "fnLadders", fn := fun _ => fun
  | [d] => { results := [.lit (.bool true)], args := [d] }
  | _ => none }
def fnLaddersRow : OpenClaim := { program := "ytpjekfebpgjgnaa", sum := "baea084b7b3a07a6578651975ff5d1c22543b3a4c6c3ecb1c7df355b75283c0a", func := "loop.example/g00911/laws.FnLadders", spec := "fnLadders", inPlace := ["internal/bytealg.IndexByteString", "internal/abi.NoEscape", "internal/bytealg.MakeNoZero"], unfollowed := true, recurses := true, apart := false }
def FnLaddersSaid : Prop := fnLaddersRow.holds Try.pinned (OpenSpec.ofChange fnLaddersSpec)

/-- ITS FALSE NEIGHBOUR: 'it returns false'. Refute it at one input. -/
def fnLaddersWrong : ChangeSpec := { name := "fnLadders", fn := fun _ => fun
  | [d] => { results := [.lit (.bool false)], args := [d] }
  | _ => none }
def FnLaddersWrongFalsely : Prop := fnLaddersRow.holds Try.pinned (OpenSpec.ofChange fnLaddersWrong)

/-- 'laws.FnExactWordsFrom': WHATEVER THE INPUT: true; the input reads as it did. -/
def fnExactWordsFromSpec : ChangeSpec := { name := "fnExactWordsFrom", fn := fun _ => fun
  | [d1, d2] => { results := [.lit (.bool true)], args := [d1, d2] }
  | _ => none }
def fnExactWordsFromRow : OpenClaim := { program := "ytpjekfebpgjgnaa", sum := "baea084b7b3a07a6578651975ff5d1c22543b3a4c6c3ecb1c7df355b75283c0a", func := "loop.example/g00911/laws.FnExactWordsFrom", spec := "fnExactWordsFrom", inPlace := ["internal/bytealg.IndexByteString", "internal/abi.NoEscape", "internal/bytealg.MakeNoZero"], unfollowed := true, recurses := true, apart := false }
def FnExactWordsFromSaid : Prop := fnExactWordsFromRow.holds Try.pinned (OpenSpec.ofChange fnExactWordsFromSpec)

/-- ITS FALSE NEIGHBOUR: 'it returns false'. Refute it at one input. -/
def fnExactWordsFromWrong : ChangeSpec := { name := "fnExactWordsFrom", fn := fun _ => fun
  | [d1, d2] => { results := [.lit (.bool false)], args := [d1, d2] }
  | _ => none }
def FnExactWordsFromWrongFalsely : Prop := fnExactWordsFromRow.holds Try.pinned (OpenSpec.ofChange fnExactWordsFromWrong)

/-- 'laws.FnExactFormsOf': WHATEVER THE INPUT: true; the input reads as it did. -/
def fnExactFormsOfSpec : ChangeSpec := { name := "fnExactFormsOf", fn := fun _ => fun
  | [d] => { results := [.lit (.bool true)], args := [d] }
  | _ => none }
def fnExactFormsOfRow : OpenClaim := { program := "ytpjekfebpgjgnaa", sum := "baea084b7b3a07a6578651975ff5d1c22543b3a4c6c3ecb1c7df355b75283c0a", func := "loop.example/g00911/laws.FnExactFormsOf", spec := "fnExactFormsOf", unfollowed := true, recurses := true, apart := false }
def FnExactFormsOfSaid : Prop := fnExactFormsOfRow.holds Try.pinned (OpenSpec.ofChange fnExactFormsOfSpec)

/-- ITS FALSE NEIGHBOUR: 'it returns false'. Refute it at one input. -/
def fnExactFormsOfWrong : ChangeSpec := { name := "fnExactFormsOf", fn := fun _ => fun
  | [d] => { results := [.lit (.bool false)], args := [d] }
  | _ => none }
def FnExactFormsOfWrongFalsely : Prop := fnExactFormsOfRow.holds Try.pinned (OpenSpec.ofChange fnExactFormsOfWrong)

/-- 'laws.FnExactWordOfForm': WHATEVER THE INPUT: true; the input reads as it did. -/
def fnExactWordOfFormSpec : ChangeSpec := { name := "fnExactWordOfForm", fn := fun _ => fun
  | [d] => { results := [.lit (.bool true)], args := [d] }
  | _ => none }
def fnExactWordOfFormRow : OpenClaim := { program := "ytpjekfebpgjgnaa", sum := "baea084b7b3a07a6578651975ff5d1c22543b3a4c6c3ecb1c7df355b75283c0a", func := "loop.example/g00911/laws.FnExactWordOfForm", spec := "fnExactWordOfForm", inPlace := ["internal/bytealg.IndexByteString", "internal/bytealg.IndexString"], named := ["internal/bytealg.MaxLen"], apart := false }
def FnExactWordOfFormSaid : Prop := fnExactWordOfFormRow.holds Try.pinned (OpenSpec.ofChange fnExactWordOfFormSpec)

/-- ITS FALSE NEIGHBOUR: 'it returns false'. Refute it at one input. -/
def fnExactWordOfFormWrong : ChangeSpec := { name := "fnExactWordOfForm", fn := fun _ => fun
  | [d] => { results := [.lit (.bool false)], args := [d] }
  | _ => none }
def FnExactWordOfFormWrongFalsely : Prop := fnExactWordOfFormRow.holds Try.pinned (OpenSpec.ofChange fnExactWordOfFormWrong)

/-- 'laws.FnExactValidPattern': WHATEVER THE INPUT: true; the input reads as it did. -/
def fnExactValidPatternSpec : ChangeSpec := { name := "fnExactValidPattern", fn := fun _ => fun
  | [d] => { results := [.lit (.bool true)], args := [d] }
  | _ => none }
def fnExactValidPatternRow : OpenClaim := { program := "ytpjekfebpgjgnaa", sum := "baea084b7b3a07a6578651975ff5d1c22543b3a4c6c3ecb1c7df355b75283c0a", func := "loop.example/g00911/laws.FnExactValidPattern", spec := "fnExactValidPattern", inPlace := ["internal/bytealg.CountString", "internal/bytealg.IndexByteString", "internal/bytealg.IndexString"], named := ["internal/bytealg.MaxLen"], apart := false }
def FnExactValidPatternSaid : Prop := fnExactValidPatternRow.holds Try.pinned (OpenSpec.ofChange fnExactValidPatternSpec)

/-- ITS FALSE NEIGHBOUR: 'it returns false'. Refute it at one input. -/
def fnExactValidPatternWrong : ChangeSpec := { name := "fnExactValidPattern", fn := fun _ => fun
  | [d] => { results := [.lit (.bool false)], args := [d] }
  | _ => none }
def FnExactValidPatternWrongFalsely : Prop := fnExactValidPatternRow.holds Try.pinned (OpenSpec.ofChange fnExactValidPatternWrong)

/-- 'laws.FnExactMatchPattern': WHATEVER THE INPUT: true; the input reads as it did. -/
def fnExactMatchPatternSpec : ChangeSpec := { name := "fnExactMatchPattern", fn := fun _ => fun
  | [d1, d2] => { results := [.lit (.bool true)], args := [d1, d2] }
  | _ => none }
def fnExactMatchPatternRow : OpenClaim := { program := "ytpjekfebpgjgnaa", sum := "baea084b7b3a07a6578651975ff5d1c22543b3a4c6c3ecb1c7df355b75283c0a", func := "loop.example/g00911/laws.FnExactMatchPattern", spec := "fnExactMatchPattern", inPlace := ["internal/bytealg.CountString", "internal/bytealg.IndexByteString", "internal/bytealg.IndexString"], unfollowed := true, recurses := true, named := ["internal/bytealg.MaxLen"], apart := false }
def FnExactMatchPatternSaid : Prop := fnExactMatchPatternRow.holds Try.pinned (OpenSpec.ofChange fnExactMatchPatternSpec)

/-- ITS FALSE NEIGHBOUR: 'it returns false'. Refute it at one input. -/
def fnExactMatchPatternWrong : ChangeSpec := { name := "fnExactMatchPattern", fn := fun _ => fun
  | [d1, d2] => { results := [.lit (.bool false)], args := [d1, d2] }
  | _ => none }
def FnExactMatchPatternWrongFalsely : Prop := fnExactMatchPatternRow.holds Try.pinned (OpenSpec.ofChange fnExactMatchPatternWrong)

/-- 'laws.FnExactWordsMatching': WHATEVER THE INPUT: true; the input reads as it did. -/
def fnExactWordsMatchingSpec : ChangeSpec := { name := "fnExactWordsMatching", fn := fun _ => fun
  | [d1, d2] => { results := [.lit (.bool true)], args := [d1, d2] }
  | _ => none }
def fnExactWordsMatchingRow : OpenClaim := { program := "ytpjekfebpgjgnaa", sum := "baea084b7b3a07a6578651975ff5d1c22543b3a4c6c3ecb1c7df355b75283c0a", func := "loop.example/g00911/laws.FnExactWordsMatching", spec := "fnExactWordsMatching", inPlace := ["internal/bytealg.CountString", "internal/bytealg.IndexByteString", "internal/bytealg.IndexString"], unfollowed := true, recurses := true, named := ["internal/bytealg.MaxLen"], apart := false }
def FnExactWordsMatchingSaid : Prop := fnExactWordsMatchingRow.holds Try.pinned (OpenSpec.ofChange fnExactWordsMatchingSpec)

/-- ITS FALSE NEIGHBOUR: 'it returns false'. Refute it at one input. -/
def fnExactWordsMatchingWrong : ChangeSpec := { name := "fnExactWordsMatching", fn := fun _ => fun
  | [d1, d2] => { results := [.lit (.bool false)], args := [d1, d2] }
  | _ => none }
def FnExactWordsMatchingWrongFalsely : Prop := fnExactWordsMatchingRow.holds Try.pinned (OpenSpec.ofChange fnExactWordsMatchingWrong)

/-- 'laws.FnExactFrontHooks': WHATEVER THE INPUT: true; the input reads as it did. -/
def fnExactFrontHooksSpec : ChangeSpec := { name := "fnExactFrontHooks", fn := fun _ => fun
  | [d1, d2] => { results := [.lit (.bool true)], args := [d1, d2] }
  | _ => none }
def fnExactFrontHooksRow : OpenClaim := { program := "ytpjekfebpgjgnaa", sum := "baea084b7b3a07a6578651975ff5d1c22543b3a4c6c3ecb1c7df355b75283c0a", func := "loop.example/g00911/laws.FnExactFrontHooks", spec := "fnExactFrontHooks", inPlace := ["internal/abi.NoEscape"], unfollowed := true, recurses := true, apart := false }
def FnExactFrontHooksSaid : Prop := fnExactFrontHooksRow.holds Try.pinned (OpenSpec.ofChange fnExactFrontHooksSpec)

/-- ITS FALSE NEIGHBOUR: 'it returns false'. Refute it at one input. -/
def fnExactFrontHooksWrong : ChangeSpec := { name := "fnExactFrontHooks", fn := fun _ => fun
  | [d1, d2] => { results := [.lit (.bool false)], args := [d1, d2] }
  | _ => none }
def FnExactFrontHooksWrongFalsely : Prop := fnExactFrontHooksRow.holds Try.pinned (OpenSpec.ofChange fnExactFrontHooksWrong)

/-- 'laws.FnExactBackHooks': WHATEVER THE INPUT: true; the input reads as it did. -/
def fnExactBackHooksSpec : ChangeSpec := { name := "fnExactBackHooks", fn := fun _ => fun
  | [d1, d2] => { results := [.lit (.bool true)], args := [d1, d2] }
  | _ => none }
def fnExactBackHooksRow : OpenClaim := { program := "ytpjekfebpgjgnaa", sum := "baea084b7b3a07a6578651975ff5d1c22543b3a4c6c3ecb1c7df355b75283c0a", func := "loop.example/g00911/laws.FnExactBackHooks", spec := "fnExactBackHooks", inPlace := ["internal/abi.NoEscape"], unfollowed := true, recurses := true, apart := false }
def FnExactBackHooksSaid : Prop := fnExactBackHooksRow.holds Try.pinned (OpenSpec.ofChange fnExactBackHooksSpec)

/-- ITS FALSE NEIGHBOUR: 'it returns false'. Refute it at one input. -/
def fnExactBackHooksWrong : ChangeSpec := { name := "fnExactBackHooks", fn := fun _ => fun
  | [d1, d2] => { results := [.lit (.bool false)], args := [d1, d2] }
  | _ => none }
def FnExactBackHooksWrongFalsely : Prop := fnExactBackHooksRow.holds Try.pinned (OpenSpec.ofChange fnExactBackHooksWrong)

/-- 'laws.FnExactDropsOf': WHATEVER THE INPUT: true; the input reads as it did. -/
def fnExactDropsOfSpec : ChangeSpec := { name := "fnExactDropsOf", fn := fun _ => fun
  | [d1, d2] => { results := [.lit (.bool true)], args := [d1, d2] }
  | _ => none }
def fnExactDropsOfRow : OpenClaim := { program := "ytpjekfebpgjgnaa", sum := "baea084b7b3a07a6578651975ff5d1c22543b3a4c6c3ecb1c7df355b75283c0a", func := "loop.example/g00911/laws.FnExactDropsOf", spec := "fnExactDropsOf", unfollowed := true, recurses := true, apart := false }
def FnExactDropsOfSaid : Prop := fnExactDropsOfRow.holds Try.pinned (OpenSpec.ofChange fnExactDropsOfSpec)

/-- ITS FALSE NEIGHBOUR: 'it returns false'. Refute it at one input. -/
def fnExactDropsOfWrong : ChangeSpec := { name := "fnExactDropsOf", fn := fun _ => fun
  | [d1, d2] => { results := [.lit (.bool false)], args := [d1, d2] }
  | _ => none }
def FnExactDropsOfWrongFalsely : Prop := fnExactDropsOfRow.holds Try.pinned (OpenSpec.ofChange fnExactDropsOfWrong)

/-- 'laws.FnExactInsertsOf': WHATEVER THE INPUT: true; the input reads as it did. -/
def fnExactInsertsOfSpec : ChangeSpec := { name := "fnExactInsertsOf", fn := fun _ => fun
  | [d1, d2] => { results := [.lit (.bool true)], args := [d1, d2] }
  | _ => none }
def fnExactInsertsOfRow : OpenClaim := { program := "ytpjekfebpgjgnaa", sum := "baea084b7b3a07a6578651975ff5d1c22543b3a4c6c3ecb1c7df355b75283c0a", func := "loop.example/g00911/laws.FnExactInsertsOf", spec := "fnExactInsertsOf", unfollowed := true, recurses := true, apart := false }
def FnExactInsertsOfSaid : Prop := fnExactInsertsOfRow.holds Try.pinned (OpenSpec.ofChange fnExactInsertsOfSpec)

/-- ITS FALSE NEIGHBOUR: 'it returns false'. Refute it at one input. -/
def fnExactInsertsOfWrong : ChangeSpec := { name := "fnExactInsertsOf", fn := fun _ => fun
  | [d1, d2] => { results := [.lit (.bool false)], args := [d1, d2] }
  | _ => none }
def FnExactInsertsOfWrongFalsely : Prop := fnExactInsertsOfRow.holds Try.pinned (OpenSpec.ofChange fnExactInsertsOfWrong)

/-- 'laws.FnExactChangesOf': WHATEVER THE INPUT: true; the input reads as it did. -/
def fnExactChangesOfSpec : ChangeSpec := { name := "fnExactChangesOf", fn := fun _ => fun
  | [d1, d2] => { results := [.lit (.bool true)], args := [d1, d2] }
  | _ => none }
def fnExactChangesOfRow : OpenClaim := { program := "ytpjekfebpgjgnaa", sum := "baea084b7b3a07a6578651975ff5d1c22543b3a4c6c3ecb1c7df355b75283c0a", func := "loop.example/g00911/laws.FnExactChangesOf", spec := "fnExactChangesOf", unfollowed := true, recurses := true, apart := false }
def FnExactChangesOfSaid : Prop := fnExactChangesOfRow.holds Try.pinned (OpenSpec.ofChange fnExactChangesOfSpec)

/-- ITS FALSE NEIGHBOUR: 'it returns false'. Refute it at one input. -/
def fnExactChangesOfWrong : ChangeSpec := { name := "fnExactChangesOf", fn := fun _ => fun
  | [d1, d2] => { results := [.lit (.bool false)], args := [d1, d2] }
  | _ => none }
def FnExactChangesOfWrongFalsely : Prop := fnExactChangesOfRow.holds Try.pinned (OpenSpec.ofChange fnExactChangesOfWrong)

/-- 'laws.FnExactLadderBetween': WHATEVER THE INPUT: true; the input reads as it did. -/
def fnExactLadderBetweenSpec : ChangeSpec := { name := "fnExactLadderBetween", fn := fun _ => fun
  | [d1, d2, d3] => { results := [.lit (.bool true)], args := [d1, d2, d3] }
  | _ => none }
def fnExactLadderBetweenRow : OpenClaim := { program := "ytpjekfebpgjgnaa", sum := "baea084b7b3a07a6578651975ff5d1c22543b3a4c6c3ecb1c7df355b75283c0a", func := "loop.example/g00911/laws.FnExactLadderBetween", spec := "fnExactLadderBetween", unfollowed := true, recurses := true, apart := false }
def FnExactLadderBetweenSaid : Prop := fnExactLadderBetweenRow.holds Try.pinned (OpenSpec.ofChange fnExactLadderBetweenSpec)

/-- ITS FALSE NEIGHBOUR: 'it returns false'. Refute it at one input. -/
def fnExactLadderBetweenWrong : ChangeSpec := { name := "fnExactLadderBetween", fn := fun _ => fun
  | [d1, d2, d3] => { results := [.lit (.bool false)], args := [d1, d2, d3] }
  | _ => none }
def FnExactLadderBetweenWrongFalsely : Prop := fnExactLadderBetweenRow.holds Try.pinned (OpenSpec.ofChange fnExactLadderBetweenWrong)

/-- 'laws.FnExactCompletionsOf': WHATEVER THE INPUT: true; the input reads as it did. -/
def fnExactCompletionsOfSpec : ChangeSpec := { name := "fnExactCompletionsOf", fn := fun _ => fun
  | [d1, d2] => { results := [.lit (.bool true)], args := [d1, d2] }
  | _ => none }
def fnExactCompletionsOfRow : OpenClaim := { program := "ytpjekfebpgjgnaa", sum := "baea084b7b3a07a6578651975ff5d1c22543b3a4c6c3ecb1c7df355b75283c0a", func := "loop.example/g00911/laws.FnExactCompletionsOf", spec := "fnExactCompletionsOf", inPlace := ["internal/bytealg.IndexByteString", "internal/abi.NoEscape", "internal/bytealg.MakeNoZero"], unfollowed := true, recurses := true, apart := false }
def FnExactCompletionsOfSaid : Prop := fnExactCompletionsOfRow.holds Try.pinned (OpenSpec.ofChange fnExactCompletionsOfSpec)

/-- ITS FALSE NEIGHBOUR: 'it returns false'. Refute it at one input. -/
def fnExactCompletionsOfWrong : ChangeSpec := { name := "fnExactCompletionsOf", fn := fun _ => fun
  | [d1, d2] => { results := [.lit (.bool false)], args := [d1, d2] }
  | _ => none }
def FnExactCompletionsOfWrongFalsely : Prop := fnExactCompletionsOfRow.holds Try.pinned (OpenSpec.ofChange fnExactCompletionsOfWrong)

/- THE SECOND FORM. 'bulk': how many values and letters a reading holds, each counted each time it is reached (what is shared counts as often as it is met; a slice's spare places count too). A statement '..UptoSaid' is the law's where the arguments, and the package variables that the reading takes, are together of bulk at most 1048576: NARROWER than '..Said'. Prove '..Said' where nothing that the law and all that it calls make is longer than what came in: it says more and counts as full. Else prove '..UptoSaid'. A law counts once. -/
mutual
def uptoBulk {H : Type} : DataW H → Nat
  | .lit (.string bytes) => bytes.length + 1
  | .lit _ => 1
  | .nil => 1
  | .ptr d => uptoBulk d + 1
  | .slice elems spare => uptoBulkAll elems + uptoBulkAll spare + 1
  | .agg parts => uptoBulkAll parts + 1
  | .iface _ d => uptoBulk d + 1
  | .map entries => uptoBulkEntries entries + 1
  | .held _ => 1
def uptoBulkAll {H : Type} : List (DataW H) → Nat
  | [] => 0
  | d :: r => uptoBulk d + uptoBulkAll r
def uptoBulkEntries {H : Type} : List (Lit × DataW H) → Nat
  | [] => 0
  | x :: r => uptoBulkEntry x + uptoBulkEntries r
def uptoBulkEntry {H : Type} : Lit × DataW H → Nat
  | (.string bytes, d) => bytes.length + uptoBulk d + 1
  | (_, d) => uptoBulk d + 1
 end
def uptoSmall : (H : Type) → List (DataW H) → Bool := fun _ ds => decide (uptoBulkAll ds ≤ 1048576)
def OpenSpec.upto (s : _root_.Go.ChangeSpec) : _root_.Go.OpenSpec := { _root_.Go.OpenSpec.ofChange s with cond := some uptoSmall }

/-- 'laws.FnPatterns', WHERE WHAT IT READS IS OF BULK AT MOST 1048576: true; the input reads as it did. -/
def fnPatternsUptoRow : OpenClaim := { program := "ytpjekfebpgjgnaa", sum := "baea084b7b3a07a6578651975ff5d1c22543b3a4c6c3ecb1c7df355b75283c0a", func := "loop.example/g00911/laws.FnPatterns", spec := "fnPatterns", inPlace := ["internal/bytealg.CountString", "internal/bytealg.IndexByteString", "internal/bytealg.IndexString"], unfollowed := true, recurses := true, named := ["internal/bytealg.MaxLen"], apart := false, narrowed := true }
def FnPatternsUptoSaid : Prop := fnPatternsUptoRow.holds Try.pinned (OpenSpec.upto fnPatternsSpec)

/-- 'laws.FnHooks', WHERE WHAT IT READS IS OF BULK AT MOST 1048576: true; the input reads as it did. -/
def fnHooksUptoRow : OpenClaim := { program := "ytpjekfebpgjgnaa", sum := "baea084b7b3a07a6578651975ff5d1c22543b3a4c6c3ecb1c7df355b75283c0a", func := "loop.example/g00911/laws.FnHooks", spec := "fnHooks", inPlace := ["internal/abi.NoEscape"], unfollowed := true, recurses := true, apart := false, narrowed := true }
def FnHooksUptoSaid : Prop := fnHooksUptoRow.holds Try.pinned (OpenSpec.upto fnHooksSpec)

/-- 'laws.FnLadders', WHERE WHAT IT READS IS OF BULK AT MOST 1048576: true; the input reads as it did. -/
def fnLaddersUptoRow : OpenClaim := { program := "ytpjekfebpgjgnaa", sum := "baea084b7b3a07a6578651975ff5d1c22543b3a4c6c3ecb1c7df355b75283c0a", func := "loop.example/g00911/laws.FnLadders", spec := "fnLadders", inPlace := ["internal/bytealg.IndexByteString", "internal/abi.NoEscape", "internal/bytealg.MakeNoZero"], unfollowed := true, recurses := true, apart := false, narrowed := true }
def FnLaddersUptoSaid : Prop := fnLaddersUptoRow.holds Try.pinned (OpenSpec.upto fnLaddersSpec)

/-- 'laws.FnExactWordsFrom', WHERE WHAT IT READS IS OF BULK AT MOST 1048576: true; the input reads as it did. -/
def fnExactWordsFromUptoRow : OpenClaim := { program := "ytpjekfebpgjgnaa", sum := "baea084b7b3a07a6578651975ff5d1c22543b3a4c6c3ecb1c7df355b75283c0a", func := "loop.example/g00911/laws.FnExactWordsFrom", spec := "fnExactWordsFrom", inPlace := ["internal/bytealg.IndexByteString", "internal/abi.NoEscape", "internal/bytealg.MakeNoZero"], unfollowed := true, recurses := true, apart := false, narrowed := true }
def FnExactWordsFromUptoSaid : Prop := fnExactWordsFromUptoRow.holds Try.pinned (OpenSpec.upto fnExactWordsFromSpec)

/-- 'laws.FnExactFormsOf', WHERE WHAT IT READS IS OF BULK AT MOST 1048576: true; the input reads as it did. -/
def fnExactFormsOfUptoRow : OpenClaim := { program := "ytpjekfebpgjgnaa", sum := "baea084b7b3a07a6578651975ff5d1c22543b3a4c6c3ecb1c7df355b75283c0a", func := "loop.example/g00911/laws.FnExactFormsOf", spec := "fnExactFormsOf", unfollowed := true, recurses := true, apart := false, narrowed := true }
def FnExactFormsOfUptoSaid : Prop := fnExactFormsOfUptoRow.holds Try.pinned (OpenSpec.upto fnExactFormsOfSpec)

/-- 'laws.FnExactWordOfForm', WHERE WHAT IT READS IS OF BULK AT MOST 1048576: true; the input reads as it did. -/
def fnExactWordOfFormUptoRow : OpenClaim := { program := "ytpjekfebpgjgnaa", sum := "baea084b7b3a07a6578651975ff5d1c22543b3a4c6c3ecb1c7df355b75283c0a", func := "loop.example/g00911/laws.FnExactWordOfForm", spec := "fnExactWordOfForm", inPlace := ["internal/bytealg.IndexByteString", "internal/bytealg.IndexString"], named := ["internal/bytealg.MaxLen"], apart := false, narrowed := true }
def FnExactWordOfFormUptoSaid : Prop := fnExactWordOfFormUptoRow.holds Try.pinned (OpenSpec.upto fnExactWordOfFormSpec)

/-- 'laws.FnExactValidPattern', WHERE WHAT IT READS IS OF BULK AT MOST 1048576: true; the input reads as it did. -/
def fnExactValidPatternUptoRow : OpenClaim := { program := "ytpjekfebpgjgnaa", sum := "baea084b7b3a07a6578651975ff5d1c22543b3a4c6c3ecb1c7df355b75283c0a", func := "loop.example/g00911/laws.FnExactValidPattern", spec := "fnExactValidPattern", inPlace := ["internal/bytealg.CountString", "internal/bytealg.IndexByteString", "internal/bytealg.IndexString"], named := ["internal/bytealg.MaxLen"], apart := false, narrowed := true }
def FnExactValidPatternUptoSaid : Prop := fnExactValidPatternUptoRow.holds Try.pinned (OpenSpec.upto fnExactValidPatternSpec)

/-- 'laws.FnExactMatchPattern', WHERE WHAT IT READS IS OF BULK AT MOST 1048576: true; the input reads as it did. -/
def fnExactMatchPatternUptoRow : OpenClaim := { program := "ytpjekfebpgjgnaa", sum := "baea084b7b3a07a6578651975ff5d1c22543b3a4c6c3ecb1c7df355b75283c0a", func := "loop.example/g00911/laws.FnExactMatchPattern", spec := "fnExactMatchPattern", inPlace := ["internal/bytealg.CountString", "internal/bytealg.IndexByteString", "internal/bytealg.IndexString"], unfollowed := true, recurses := true, named := ["internal/bytealg.MaxLen"], apart := false, narrowed := true }
def FnExactMatchPatternUptoSaid : Prop := fnExactMatchPatternUptoRow.holds Try.pinned (OpenSpec.upto fnExactMatchPatternSpec)

/-- 'laws.FnExactWordsMatching', WHERE WHAT IT READS IS OF BULK AT MOST 1048576: true; the input reads as it did. -/
def fnExactWordsMatchingUptoRow : OpenClaim := { program := "ytpjekfebpgjgnaa", sum := "baea084b7b3a07a6578651975ff5d1c22543b3a4c6c3ecb1c7df355b75283c0a", func := "loop.example/g00911/laws.FnExactWordsMatching", spec := "fnExactWordsMatching", inPlace := ["internal/bytealg.CountString", "internal/bytealg.IndexByteString", "internal/bytealg.IndexString"], unfollowed := true, recurses := true, named := ["internal/bytealg.MaxLen"], apart := false, narrowed := true }
def FnExactWordsMatchingUptoSaid : Prop := fnExactWordsMatchingUptoRow.holds Try.pinned (OpenSpec.upto fnExactWordsMatchingSpec)

/-- 'laws.FnExactFrontHooks', WHERE WHAT IT READS IS OF BULK AT MOST 1048576: true; the input reads as it did. -/
def fnExactFrontHooksUptoRow : OpenClaim := { program := "ytpjekfebpgjgnaa", sum := "baea084b7b3a07a6578651975ff5d1c22543b3a4c6c3ecb1c7df355b75283c0a", func := "loop.example/g00911/laws.FnExactFrontHooks", spec := "fnExactFrontHooks", inPlace := ["internal/abi.NoEscape"], unfollowed := true, recurses := true, apart := false, narrowed := true }
def FnExactFrontHooksUptoSaid : Prop := fnExactFrontHooksUptoRow.holds Try.pinned (OpenSpec.upto fnExactFrontHooksSpec)

/-- 'laws.FnExactBackHooks', WHERE WHAT IT READS IS OF BULK AT MOST 1048576: true; the input reads as it did. -/
def fnExactBackHooksUptoRow : OpenClaim := { program := "ytpjekfebpgjgnaa", sum := "baea084b7b3a07a6578651975ff5d1c22543b3a4c6c3ecb1c7df355b75283c0a", func := "loop.example/g00911/laws.FnExactBackHooks", spec := "fnExactBackHooks", inPlace := ["internal/abi.NoEscape"], unfollowed := true, recurses := true, apart := false, narrowed := true }
def FnExactBackHooksUptoSaid : Prop := fnExactBackHooksUptoRow.holds Try.pinned (OpenSpec.upto fnExactBackHooksSpec)

/-- 'laws.FnExactDropsOf', WHERE WHAT IT READS IS OF BULK AT MOST 1048576: true; the input reads as it did. -/
def fnExactDropsOfUptoRow : OpenClaim := { program := "ytpjekfebpgjgnaa", sum := "baea084b7b3a07a6578651975ff5d1c22543b3a4c6c3ecb1c7df355b75283c0a", func := "loop.example/g00911/laws.FnExactDropsOf", spec := "fnExactDropsOf", unfollowed := true, recurses := true, apart := false, narrowed := true }
def FnExactDropsOfUptoSaid : Prop := fnExactDropsOfUptoRow.holds Try.pinned (OpenSpec.upto fnExactDropsOfSpec)

/-- 'laws.FnExactInsertsOf', WHERE WHAT IT READS IS OF BULK AT MOST 1048576: true; the input reads as it did. -/
def fnExactInsertsOfUptoRow : OpenClaim := { program := "ytpjekfebpgjgnaa", sum := "baea084b7b3a07a6578651975ff5d1c22543b3a4c6c3ecb1c7df355b75283c0a", func := "loop.example/g00911/laws.FnExactInsertsOf", spec := "fnExactInsertsOf", unfollowed := true, recurses := true, apart := false, narrowed := true }
def FnExactInsertsOfUptoSaid : Prop := fnExactInsertsOfUptoRow.holds Try.pinned (OpenSpec.upto fnExactInsertsOfSpec)

/-- 'laws.FnExactChangesOf', WHERE WHAT IT READS IS OF BULK AT MOST 1048576: true; the input reads as it did. -/
def fnExactChangesOfUptoRow : OpenClaim := { program := "ytpjekfebpgjgnaa", sum := "baea084b7b3a07a6578651975ff5d1c22543b3a4c6c3ecb1c7df355b75283c0a", func := "loop.example/g00911/laws.FnExactChangesOf", spec := "fnExactChangesOf", unfollowed := true, recurses := true, apart := false, narrowed := true }
def FnExactChangesOfUptoSaid : Prop := fnExactChangesOfUptoRow.holds Try.pinned (OpenSpec.upto fnExactChangesOfSpec)

/-- 'laws.FnExactLadderBetween', WHERE WHAT IT READS IS OF BULK AT MOST 1048576: true; the input reads as it did. -/
def fnExactLadderBetweenUptoRow : OpenClaim := { program := "ytpjekfebpgjgnaa", sum := "baea084b7b3a07a6578651975ff5d1c22543b3a4c6c3ecb1c7df355b75283c0a", func := "loop.example/g00911/laws.FnExactLadderBetween", spec := "fnExactLadderBetween", unfollowed := true, recurses := true, apart := false, narrowed := true }
def FnExactLadderBetweenUptoSaid : Prop := fnExactLadderBetweenUptoRow.holds Try.pinned (OpenSpec.upto fnExactLadderBetweenSpec)

/-- 'laws.FnExactCompletionsOf', WHERE WHAT IT READS IS OF BULK AT MOST 1048576: true; the input reads as it did. -/
def fnExactCompletionsOfUptoRow : OpenClaim := { program := "ytpjekfebpgjgnaa", sum := "baea084b7b3a07a6578651975ff5d1c22543b3a4c6c3ecb1c7df355b75283c0a", func := "loop.example/g00911/laws.FnExactCompletionsOf", spec := "fnExactCompletionsOf", inPlace := ["internal/bytealg.IndexByteString", "internal/abi.NoEscape", "internal/bytealg.MakeNoZero"], unfollowed := true, recurses := true, apart := false, narrowed := true }
def FnExactCompletionsOfUptoSaid : Prop := fnExactCompletionsOfUptoRow.holds Try.pinned (OpenSpec.upto fnExactCompletionsOfSpec)

end Rows
end Go.Proofs.Ytpjekfebpgjgnaa
