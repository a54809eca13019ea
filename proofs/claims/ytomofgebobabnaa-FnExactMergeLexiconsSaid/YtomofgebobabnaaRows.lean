/-
  No cell of these rows narrows 'for every input' (looked for: loops, veiled, ifaces, maps, wideKeys, modest, calm, conditions, laid).
  DERIVED. THE GIVEN ROWS OF THIS SEAT. 12 by the template 'for every input the law returns true; each argument reads behind the call as it read before'; 0 by the template 'total and deterministic' (their statements: YtomofgebobabnaaTotals.lean).
  GIVEN WITH THE SEED: the statements are not yours to turn. If you find one false, say at which input.
  Laid BY PROGRAM, IN A SANDBOX (cutbox-rows.mjs): the forced cells as the released guide's own fill.sh prints them over the translation 26d0530c95690365… (all of the seat's roots in one cut). By AI agents, Wed Nov 11 2026. No macro, syntax, notation, axiom, sorry.
-/
import Derived.Test.YtomofgebobabnaaChecked
import GoSem.Claim
import GoSem.ClaimJoined
import GoSem.ClaimMapViews
import Derived.JoinedTies
import Derived.KernelRfl
namespace Go.Proofs.Ytomofgebobabnaa
/- THE CELL 'sum', in the pinned program and in every row, IS THE sha256 OF THE DUMP (.gsa) THAT YtomofgebobabnaaProg.lean LOADS. Nothing in Lean hashes anything: it is a label: what it is worth is what the hold of that sum in a sandbox is worth. -/
noncomputable def Try.pinned : Pinned := { name := "ytomofgebobabnaa", sum := "26d0530c95690365927ebcdaa8fb7ecaae42cea14018a6c12c25c130ec413fd0", checked := Try.checked }
namespace Rows
def none {H : Type} : Left H := { results := [], args := [] }

/-- 'laws.FnExactValidLexicon': WHATEVER THE INPUT: true; the input reads as it did. -/
def fnExactValidLexiconSpec : ChangeSpec := { name := "fnExactValidLexicon", fn := fun _ => fun
  | [d] => { results := [.lit (.bool true)], args := [d] }
  | _ => none }
def fnExactValidLexiconRow : OpenClaim := { program := "ytomofgebobabnaa", sum := "26d0530c95690365927ebcdaa8fb7ecaae42cea14018a6c12c25c130ec413fd0", func := "loop.example/g00911/laws.FnExactValidLexicon", spec := "fnExactValidLexicon", apart := false }
def FnExactValidLexiconSaid : Prop := fnExactValidLexiconRow.holds Try.pinned (OpenSpec.ofChange fnExactValidLexiconSpec)

/-- ITS FALSE NEIGHBOUR: 'it returns false'. Refute it at one input. -/
def fnExactValidLexiconWrong : ChangeSpec := { name := "fnExactValidLexicon", fn := fun _ => fun
  | [d] => { results := [.lit (.bool false)], args := [d] }
  | _ => none }
def FnExactValidLexiconWrongFalsely : Prop := fnExactValidLexiconRow.holds Try.pinned (OpenSpec.ofChange fnExactValidLexiconWrong)

/-- 'laws.FnExactSameLexicon': WHATEVER THE INPUT: true; the input reads as it did. -/
def fnExactSameLexiconSpec : ChangeSpec := { name := "fnExactSameLexicon", fn := fun _ => fun
  | [d1, d2] => { results := [.lit (.bool true)], args := [d1, d2] }
  | _ => none }
def fnExactSameLexiconRow : OpenClaim := { program := "ytomofgebobabnaa", sum := "26d0530c95690365927ebcdaa8fb7ecaae42cea14018a6c12c25c130ec413fd0", func := "loop.example/g00911/laws.FnExactSameLexicon", spec := "fnExactSameLexicon", apart := false }
def FnExactSameLexiconSaid : Prop := fnExactSameLexiconRow.holds Try.pinned (OpenSpec.ofChange fnExactSameLexiconSpec)

/-- ITS FALSE NEIGHBOUR: 'it returns false'. Refute it at one input. -/
def fnExactSameLexiconWrong : ChangeSpec := { name := "fnExactSameLexicon", fn := fun _ => fun
  | [d1, d2] => { results := [.lit (.bool false)], args := [d1, d2] }
  | _ => none }
def FnExactSameLexiconWrongFalsely : Prop := fnExactSameLexiconRow.holds Try.pinned (OpenSpec.ofChange fnExactSameLexiconWrong)

/-- 'laws.FnExactMakeLexicon': WHATEVER THE INPUT: true; the input reads as it did. -/
def fnExactMakeLexiconSpec : ChangeSpec := { name := "fnExactMakeLexicon", fn := fun _ => fun
  | [d] => { results := [.lit (.bool true)], args := [d] }
  | _ => none }
def fnExactMakeLexiconRow : OpenClaim := { program := "ytomofgebobabnaa", sum := "26d0530c95690365927ebcdaa8fb7ecaae42cea14018a6c12c25c130ec413fd0", func := "loop.example/g00911/laws.FnExactMakeLexicon", spec := "fnExactMakeLexicon", recurses := true, apart := false }
def FnExactMakeLexiconSaid : Prop := fnExactMakeLexiconRow.holds Try.pinned (OpenSpec.ofChange fnExactMakeLexiconSpec)

/-- ITS FALSE NEIGHBOUR: 'it returns false'. Refute it at one input. -/
def fnExactMakeLexiconWrong : ChangeSpec := { name := "fnExactMakeLexicon", fn := fun _ => fun
  | [d] => { results := [.lit (.bool false)], args := [d] }
  | _ => none }
def FnExactMakeLexiconWrongFalsely : Prop := fnExactMakeLexiconRow.holds Try.pinned (OpenSpec.ofChange fnExactMakeLexiconWrong)

/-- 'laws.FnExactHasWord': WHATEVER THE INPUT: true; the input reads as it did. -/
def fnExactHasWordSpec : ChangeSpec := { name := "fnExactHasWord", fn := fun _ => fun
  | [d1, d2] => { results := [.lit (.bool true)], args := [d1, d2] }
  | _ => none }
def fnExactHasWordRow : OpenClaim := { program := "ytomofgebobabnaa", sum := "26d0530c95690365927ebcdaa8fb7ecaae42cea14018a6c12c25c130ec413fd0", func := "loop.example/g00911/laws.FnExactHasWord", spec := "fnExactHasWord", apart := false }
def FnExactHasWordSaid : Prop := fnExactHasWordRow.holds Try.pinned (OpenSpec.ofChange fnExactHasWordSpec)

/-- ITS FALSE NEIGHBOUR: 'it returns false'. Refute it at one input. -/
def fnExactHasWordWrong : ChangeSpec := { name := "fnExactHasWord", fn := fun _ => fun
  | [d1, d2] => { results := [.lit (.bool false)], args := [d1, d2] }
  | _ => none }
def FnExactHasWordWrongFalsely : Prop := fnExactHasWordRow.holds Try.pinned (OpenSpec.ofChange fnExactHasWordWrong)

/-- 'laws.FnExactAddWord': WHATEVER THE INPUT: true; the input reads as it did. -/
def fnExactAddWordSpec : ChangeSpec := { name := "fnExactAddWord", fn := fun _ => fun
  | [d1, d2] => { results := [.lit (.bool true)], args := [d1, d2] }
  | _ => none }
def fnExactAddWordRow : OpenClaim := { program := "ytomofgebobabnaa", sum := "26d0530c95690365927ebcdaa8fb7ecaae42cea14018a6c12c25c130ec413fd0", func := "loop.example/g00911/laws.FnExactAddWord", spec := "fnExactAddWord", apart := false }
def FnExactAddWordSaid : Prop := fnExactAddWordRow.holds Try.pinned (OpenSpec.ofChange fnExactAddWordSpec)

/-- ITS FALSE NEIGHBOUR: 'it returns false'. Refute it at one input. -/
def fnExactAddWordWrong : ChangeSpec := { name := "fnExactAddWord", fn := fun _ => fun
  | [d1, d2] => { results := [.lit (.bool false)], args := [d1, d2] }
  | _ => none }
def FnExactAddWordWrongFalsely : Prop := fnExactAddWordRow.holds Try.pinned (OpenSpec.ofChange fnExactAddWordWrong)

/-- 'laws.FnExactRemoveWord': WHATEVER THE INPUT: true; the input reads as it did. -/
def fnExactRemoveWordSpec : ChangeSpec := { name := "fnExactRemoveWord", fn := fun _ => fun
  | [d1, d2] => { results := [.lit (.bool true)], args := [d1, d2] }
  | _ => none }
def fnExactRemoveWordRow : OpenClaim := { program := "ytomofgebobabnaa", sum := "26d0530c95690365927ebcdaa8fb7ecaae42cea14018a6c12c25c130ec413fd0", func := "loop.example/g00911/laws.FnExactRemoveWord", spec := "fnExactRemoveWord", apart := false }
def FnExactRemoveWordSaid : Prop := fnExactRemoveWordRow.holds Try.pinned (OpenSpec.ofChange fnExactRemoveWordSpec)

/-- ITS FALSE NEIGHBOUR: 'it returns false'. Refute it at one input. -/
def fnExactRemoveWordWrong : ChangeSpec := { name := "fnExactRemoveWord", fn := fun _ => fun
  | [d1, d2] => { results := [.lit (.bool false)], args := [d1, d2] }
  | _ => none }
def FnExactRemoveWordWrongFalsely : Prop := fnExactRemoveWordRow.holds Try.pinned (OpenSpec.ofChange fnExactRemoveWordWrong)

/-- 'laws.FnExactPrefixRange': WHATEVER THE INPUT: true; the input reads as it did. -/
def fnExactPrefixRangeSpec : ChangeSpec := { name := "fnExactPrefixRange", fn := fun _ => fun
  | [d1, d2] => { results := [.lit (.bool true)], args := [d1, d2] }
  | _ => none }
def fnExactPrefixRangeRow : OpenClaim := { program := "ytomofgebobabnaa", sum := "26d0530c95690365927ebcdaa8fb7ecaae42cea14018a6c12c25c130ec413fd0", func := "loop.example/g00911/laws.FnExactPrefixRange", spec := "fnExactPrefixRange", apart := false }
def FnExactPrefixRangeSaid : Prop := fnExactPrefixRangeRow.holds Try.pinned (OpenSpec.ofChange fnExactPrefixRangeSpec)

/-- ITS FALSE NEIGHBOUR: 'it returns false'. Refute it at one input. -/
def fnExactPrefixRangeWrong : ChangeSpec := { name := "fnExactPrefixRange", fn := fun _ => fun
  | [d1, d2] => { results := [.lit (.bool false)], args := [d1, d2] }
  | _ => none }
def FnExactPrefixRangeWrongFalsely : Prop := fnExactPrefixRangeRow.holds Try.pinned (OpenSpec.ofChange fnExactPrefixRangeWrong)

/-- 'laws.FnExactWordsOfLength': WHATEVER THE INPUT: true; the input reads as it did. -/
def fnExactWordsOfLengthSpec : ChangeSpec := { name := "fnExactWordsOfLength", fn := fun _ => fun
  | [d1, d2] => { results := [.lit (.bool true)], args := [d1, d2] }
  | _ => none }
def fnExactWordsOfLengthRow : OpenClaim := { program := "ytomofgebobabnaa", sum := "26d0530c95690365927ebcdaa8fb7ecaae42cea14018a6c12c25c130ec413fd0", func := "loop.example/g00911/laws.FnExactWordsOfLength", spec := "fnExactWordsOfLength", unfollowed := true, recurses := true, apart := false }
def FnExactWordsOfLengthSaid : Prop := fnExactWordsOfLengthRow.holds Try.pinned (OpenSpec.ofChange fnExactWordsOfLengthSpec)

/-- ITS FALSE NEIGHBOUR: 'it returns false'. Refute it at one input. -/
def fnExactWordsOfLengthWrong : ChangeSpec := { name := "fnExactWordsOfLength", fn := fun _ => fun
  | [d1, d2] => { results := [.lit (.bool false)], args := [d1, d2] }
  | _ => none }
def FnExactWordsOfLengthWrongFalsely : Prop := fnExactWordsOfLengthRow.holds Try.pinned (OpenSpec.ofChange fnExactWordsOfLengthWrong)

/-- 'laws.FnExactWordsFrom': WHATEVER THE INPUT: true; the input reads as it did. -/
def fnExactWordsFromSpec : ChangeSpec := { name := "fnExactWordsFrom", fn := fun _ => fun
  | [d1, d2] => { results := [.lit (.bool true)], args := [d1, d2] }
  | _ => none }
def fnExactWordsFromRow : OpenClaim := { program := "ytomofgebobabnaa", sum := "26d0530c95690365927ebcdaa8fb7ecaae42cea14018a6c12c25c130ec413fd0", func := "loop.example/g00911/laws.FnExactWordsFrom", spec := "fnExactWordsFrom", inPlace := ["internal/bytealg.IndexByteString", "internal/abi.NoEscape", "internal/bytealg.MakeNoZero"], apart := false }
def FnExactWordsFromSaid : Prop := fnExactWordsFromRow.holds Try.pinned (OpenSpec.ofChange fnExactWordsFromSpec)

/-- ITS FALSE NEIGHBOUR: 'it returns false'. Refute it at one input. -/
def fnExactWordsFromWrong : ChangeSpec := { name := "fnExactWordsFrom", fn := fun _ => fun
  | [d1, d2] => { results := [.lit (.bool false)], args := [d1, d2] }
  | _ => none }
def FnExactWordsFromWrongFalsely : Prop := fnExactWordsFromRow.holds Try.pinned (OpenSpec.ofChange fnExactWordsFromWrong)

/-- 'laws.FnExactMergeLexicons': WHATEVER THE INPUT: true; the input reads as it did. -/
def fnExactMergeLexiconsSpec : ChangeSpec := { name := "fnExactMergeLexicons", fn := fun _ => fun
  | [d1, d2] => { results := [.lit (.bool true)], args := [d1, d2] }
  | _ => none }
def fnExactMergeLexiconsRow : OpenClaim := { program := "ytomofgebobabnaa", sum := "26d0530c95690365927ebcdaa8fb7ecaae42cea14018a6c12c25c130ec413fd0", func := "loop.example/g00911/laws.FnExactMergeLexicons", spec := "fnExactMergeLexicons", recurses := true, apart := false }
def FnExactMergeLexiconsSaid : Prop := fnExactMergeLexiconsRow.holds Try.pinned (OpenSpec.ofChange fnExactMergeLexiconsSpec)

/-- ITS FALSE NEIGHBOUR: 'it returns false'. Refute it at one input. -/
def fnExactMergeLexiconsWrong : ChangeSpec := { name := "fnExactMergeLexicons", fn := fun _ => fun
  | [d1, d2] => { results := [.lit (.bool false)], args := [d1, d2] }
  | _ => none }
def FnExactMergeLexiconsWrongFalsely : Prop := fnExactMergeLexiconsRow.holds Try.pinned (OpenSpec.ofChange fnExactMergeLexiconsWrong)

/-- 'laws.FnExactLexiconText': WHATEVER THE INPUT: true; the input reads as it did. -/
def fnExactLexiconTextSpec : ChangeSpec := { name := "fnExactLexiconText", fn := fun _ => fun
  | [d] => { results := [.lit (.bool true)], args := [d] }
  | _ => none }
def fnExactLexiconTextRow : OpenClaim := { program := "ytomofgebobabnaa", sum := "26d0530c95690365927ebcdaa8fb7ecaae42cea14018a6c12c25c130ec413fd0", func := "loop.example/g00911/laws.FnExactLexiconText", spec := "fnExactLexiconText", inPlace := ["internal/abi.NoEscape", "internal/bytealg.MakeNoZero"], apart := false }
def FnExactLexiconTextSaid : Prop := fnExactLexiconTextRow.holds Try.pinned (OpenSpec.ofChange fnExactLexiconTextSpec)

/-- ITS FALSE NEIGHBOUR: 'it returns false'. Refute it at one input. -/
def fnExactLexiconTextWrong : ChangeSpec := { name := "fnExactLexiconText", fn := fun _ => fun
  | [d] => { results := [.lit (.bool false)], args := [d] }
  | _ => none }
def FnExactLexiconTextWrongFalsely : Prop := fnExactLexiconTextRow.holds Try.pinned (OpenSpec.ofChange fnExactLexiconTextWrong)

/-- 'laws.FnExactReadLexicon': WHATEVER THE INPUT: true; the input reads as it did. -/
def fnExactReadLexiconSpec : ChangeSpec := { name := "fnExactReadLexicon", fn := fun _ => fun
  | [d] => { results := [.lit (.bool true)], args := [d] }
  | _ => none }
def fnExactReadLexiconRow : OpenClaim := { program := "ytomofgebobabnaa", sum := "26d0530c95690365927ebcdaa8fb7ecaae42cea14018a6c12c25c130ec413fd0", func := "loop.example/g00911/laws.FnExactReadLexicon", spec := "fnExactReadLexicon", inPlace := ["internal/bytealg.IndexByteString", "internal/abi.NoEscape", "internal/bytealg.MakeNoZero"], unfollowed := true, recurses := true, apart := false }
def FnExactReadLexiconSaid : Prop := fnExactReadLexiconRow.holds Try.pinned (OpenSpec.ofChange fnExactReadLexiconSpec)

/-- ITS FALSE NEIGHBOUR: 'it returns false'. Refute it at one input. -/
def fnExactReadLexiconWrong : ChangeSpec := { name := "fnExactReadLexicon", fn := fun _ => fun
  | [d] => { results := [.lit (.bool false)], args := [d] }
  | _ => none }
def FnExactReadLexiconWrongFalsely : Prop := fnExactReadLexiconRow.holds Try.pinned (OpenSpec.ofChange fnExactReadLexiconWrong)

/- THE SECOND FORM. 'bulk': how many values and letters a reading holds, each counted each time it is reached (what is shared counts as often as it is met; a slice's spare places count too). A statement '..UptoSaid' is the law's where the arguments, and the package variables that the reading takes, are together of bulk at most 1048576: NARROWER than '..Said'. Prove '..Said' where nothing that the law and all that it calls make is longer than what came in: it says more and counts as full. Else prove '..UptoSaid'. A law counts once. -/
mutual
def uptoBulk {H : Type} : DataW H → Nat
  | .lit (.string bytes) => bytes.length + 1
  | .lit _ => 1
  | .nil => 1
  | .ptr d => uptoBulk d + 1
  | .slice elems spare => uptoBulkAll elems + uptoBulkAll spare + 1
  | .agg parts => uptoBulkAll parts + 1
  | .iface _ d => uptoBulk d + 1
  | .map entries => uptoBulkEntries entries + 1
  | .held _ => 1
def uptoBulkAll {H : Type} : List (DataW H) → Nat
  | [] => 0
  | d :: r => uptoBulk d + uptoBulkAll r
def uptoBulkEntries {H : Type} : List (Lit × DataW H) → Nat
  | [] => 0
  | x :: r => uptoBulkEntry x + uptoBulkEntries r
def uptoBulkEntry {H : Type} : Lit × DataW H → Nat
  | (.string bytes, d) => bytes.length + uptoBulk d + 1
  | (_, d) => uptoBulk d + 1
 end
def uptoSmall : (H : Type) → List (DataW H) → Bool := fun _ ds => decide (uptoBulkAll ds ≤ 1048576)
def OpenSpec.upto (s : _root_.Go.ChangeSpec) : _root_.Go.OpenSpec := { _root_.Go.OpenSpec.ofChange s with cond := some uptoSmall }

/-- 'laws.FnExactValidLexicon', WHERE WHAT IT READS IS OF BULK AT MOST 1048576: true; the input reads as it did. -/
def fnExactValidLexiconUptoRow : OpenClaim := { program := "ytomofgebobabnaa", sum := "26d0530c95690365927ebcdaa8fb7ecaae42cea14018a6c12c25c130ec413fd0", func := "loop.example/g00911/laws.FnExactValidLexicon", spec := "fnExactValidLexicon", apart := false, narrowed := true }
def FnExactValidLexiconUptoSaid : Prop := fnExactValidLexiconUptoRow.holds Try.pinned (OpenSpec.upto fnExactValidLexiconSpec)

/-- 'laws.FnExactSameLexicon', WHERE WHAT IT READS IS OF BULK AT MOST 1048576: true; the input reads as it did. -/
def fnExactSameLexiconUptoRow : OpenClaim := { program := "ytomofgebobabnaa", sum := "26d0530c95690365927ebcdaa8fb7ecaae42cea14018a6c12c25c130ec413fd0", func := "loop.example/g00911/laws.FnExactSameLexicon", spec := "fnExactSameLexicon", apart := false, narrowed := true }
def FnExactSameLexiconUptoSaid : Prop := fnExactSameLexiconUptoRow.holds Try.pinned (OpenSpec.upto fnExactSameLexiconSpec)

/-- 'laws.FnExactMakeLexicon', WHERE WHAT IT READS IS OF BULK AT MOST 1048576: true; the input reads as it did. -/
def fnExactMakeLexiconUptoRow : OpenClaim := { program := "ytomofgebobabnaa", sum := "26d0530c95690365927ebcdaa8fb7ecaae42cea14018a6c12c25c130ec413fd0", func := "loop.example/g00911/laws.FnExactMakeLexicon", spec := "fnExactMakeLexicon", recurses := true, apart := false, narrowed := true }
def FnExactMakeLexiconUptoSaid : Prop := fnExactMakeLexiconUptoRow.holds Try.pinned (OpenSpec.upto fnExactMakeLexiconSpec)

/-- 'laws.FnExactHasWord', WHERE WHAT IT READS IS OF BULK AT MOST 1048576: true; the input reads as it did. -/
def fnExactHasWordUptoRow : OpenClaim := { program := "ytomofgebobabnaa", sum := "26d0530c95690365927ebcdaa8fb7ecaae42cea14018a6c12c25c130ec413fd0", func := "loop.example/g00911/laws.FnExactHasWord", spec := "fnExactHasWord", apart := false, narrowed := true }
def FnExactHasWordUptoSaid : Prop := fnExactHasWordUptoRow.holds Try.pinned (OpenSpec.upto fnExactHasWordSpec)

/-- 'laws.FnExactAddWord', WHERE WHAT IT READS IS OF BULK AT MOST 1048576: true; the input reads as it did. -/
def fnExactAddWordUptoRow : OpenClaim := { program := "ytomofgebobabnaa", sum := "26d0530c95690365927ebcdaa8fb7ecaae42cea14018a6c12c25c130ec413fd0", func := "loop.example/g00911/laws.FnExactAddWord", spec := "fnExactAddWord", apart := false, narrowed := true }
def FnExactAddWordUptoSaid : Prop := fnExactAddWordUptoRow.holds Try.pinned (OpenSpec.upto fnExactAddWordSpec)

/-- 'laws.FnExactRemoveWord', WHERE WHAT IT READS IS OF BULK AT MOST 1048576: true; the input reads as it did. -/
def fnExactRemoveWordUptoRow : OpenClaim := { program := "ytomofgebobabnaa", sum := "26d0530c95690365927ebcdaa8fb7ecaae42cea14018a6c12c25c130ec413fd0", func := "loop.example/g00911/laws.FnExactRemoveWord", spec := "fnExactRemoveWord", apart := false, narrowed := true }
def FnExactRemoveWordUptoSaid : Prop := fnExactRemoveWordUptoRow.holds Try.pinned (OpenSpec.upto fnExactRemoveWordSpec)

/-- 'laws.FnExactPrefixRange', WHERE WHAT IT READS IS OF BULK AT MOST 1048576: true; the input reads as it did. -/
def fnExactPrefixRangeUptoRow : OpenClaim := { program := "ytomofgebobabnaa", sum := "26d0530c95690365927ebcdaa8fb7ecaae42cea14018a6c12c25c130ec413fd0", func := "loop.example/g00911/laws.FnExactPrefixRange", spec := "fnExactPrefixRange", apart := false, narrowed := true }
def FnExactPrefixRangeUptoSaid : Prop := fnExactPrefixRangeUptoRow.holds Try.pinned (OpenSpec.upto fnExactPrefixRangeSpec)

/-- 'laws.FnExactWordsOfLength', WHERE WHAT IT READS IS OF BULK AT MOST 1048576: true; the input reads as it did. -/
def fnExactWordsOfLengthUptoRow : OpenClaim := { program := "ytomofgebobabnaa", sum := "26d0530c95690365927ebcdaa8fb7ecaae42cea14018a6c12c25c130ec413fd0", func := "loop.example/g00911/laws.FnExactWordsOfLength", spec := "fnExactWordsOfLength", unfollowed := true, recurses := true, apart := false, narrowed := true }
def FnExactWordsOfLengthUptoSaid : Prop := fnExactWordsOfLengthUptoRow.holds Try.pinned (OpenSpec.upto fnExactWordsOfLengthSpec)

/-- 'laws.FnExactWordsFrom', WHERE WHAT IT READS IS OF BULK AT MOST 1048576: true; the input reads as it did. -/
def fnExactWordsFromUptoRow : OpenClaim := { program := "ytomofgebobabnaa", sum := "26d0530c95690365927ebcdaa8fb7ecaae42cea14018a6c12c25c130ec413fd0", func := "loop.example/g00911/laws.FnExactWordsFrom", spec := "fnExactWordsFrom", inPlace := ["internal/bytealg.IndexByteString", "internal/abi.NoEscape", "internal/bytealg.MakeNoZero"], apart := false, narrowed := true }
def FnExactWordsFromUptoSaid : Prop := fnExactWordsFromUptoRow.holds Try.pinned (OpenSpec.upto fnExactWordsFromSpec)

/-- 'laws.FnExactMergeLexicons', WHERE WHAT IT READS IS OF BULK AT MOST 1048576: true; the input reads as it did. -/
def fnExactMergeLexiconsUptoRow : OpenClaim := { program := "ytomofgebobabnaa", sum := "26d0530c95690365927ebcdaa8fb7ecaae42cea14018a6c12c25c130ec413fd0", func := "loop.example/g00911/laws.FnExactMergeLexicons", spec := "fnExactMergeLexicons", recurses := true, apart := false, narrowed := true }
def FnExactMergeLexiconsUptoSaid : Prop := fnExactMergeLexiconsUptoRow.holds Try.pinned (OpenSpec.upto fnExactMergeLexiconsSpec)

/-- 'laws.FnExactLexiconText', WHERE WHAT IT READS IS OF BULK AT MOST 1048576: true; the input reads as it did. -/
def fnExactLexiconTextUptoRow : OpenClaim := { program := "ytomofgebobabnaa", sum := "26d0530c95690365927ebcdaa8fb7ecaae42cea14018a6c12c25c130ec413fd0", func := "loop.example/g00911/laws.FnExactLexiconText", spec := "fnExactLexiconText", inPlace := ["internal/abi.NoEscape", "internal/bytealg.MakeNoZero"], apart := false, narrowed := true }
def FnExactLexiconTextUptoSaid : Prop := fnExactLexiconTextUptoRow.holds Try.pinned (OpenSpec.upto fnExactLexiconTextSpec)

/-- 'laws.FnExactReadLexicon', WHERE WHAT IT READS IS OF BULK AT MOST 1048576: true; the input reads as it did. -/
def fnExactReadLexiconUptoRow : OpenClaim := { program := "ytomofgebobabnaa", sum := "26d0530c95690365927ebcdaa8fb7ecaae42cea14018a6c12c25c130ec413fd0", func := "loop.example/g00911/laws.FnExactReadLexicon", spec := "fnExactReadLexicon", inPlace := ["internal/bytealg.IndexByteString", "internal/abi.NoEscape", "internal/bytealg.MakeNoZero"], unfollowed := true, recurses := true, apart := false, narrowed := true }
def FnExactReadLexiconUptoSaid : Prop := fnExactReadLexiconUptoRow.holds Try.pinned (OpenSpec.upto fnExactReadLexiconSpec)

end Rows
end Go.Proofs.Ytomofgebobabnaa
