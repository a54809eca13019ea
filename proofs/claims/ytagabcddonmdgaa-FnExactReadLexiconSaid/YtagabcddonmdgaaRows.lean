/-
  No cell of these rows narrows 'for every input' (looked for: loops, veiled, ifaces, maps, wideKeys, modest, calm, conditions, laid).
  DERIVED. THE GIVEN ROWS OF THIS SEAT. 3 by the template 'for every input the law returns true; each argument reads behind the call as it read before'; 0 by the template 'total and deterministic' (their statements: YtagabcddonmdgaaTotals.lean).
  GIVEN WITH THE SEED: the statements are not yours to turn. If you find one false, say at which input.
  Laid BY PROGRAM, IN A SANDBOX (cutbox-rows.mjs): the forced cells as the released guide's own fill.sh prints them over the translation 08ee24f4a39df496… (all of the seat's roots in one cut). By AI agents, Wed Nov 11 2026. No macro, syntax, notation, axiom, sorry.
-/
import Derived.Test.YtagabcddonmdgaaChecked
import GoSem.Claim
import GoSem.ClaimJoined
import GoSem.ClaimMapViews
import Derived.JoinedTies
import Derived.KernelRfl
namespace Go.Proofs.Ytagabcddonmdgaa
/- THE CELL 'sum', in the pinned program and in every row, IS THE sha256 OF THE DUMP (.gsa) THAT YtagabcddonmdgaaProg.lean LOADS. Nothing in Lean hashes anything: it is a label: what it is worth is what the hold of that sum in a sandbox is worth. -/
noncomputable def Try.pinned : Pinned := { name := "ytagabcddonmdgaa", sum := "08ee24f4a39df496162702db7990ad6fc57cdf8e9afdd82f1b7809a465e04b72", checked := Try.checked }
namespace Rows
def none {H : Type} : Left H := { results := [], args := [] }

/-- 'laws.FnExactReadGrammar': WHATEVER THE INPUT: true; the input reads as it did. -/
def fnExactReadGrammarSpec : ChangeSpec := { name := "fnExactReadGrammar", fn := fun _ => fun
  | [d] => { results := [.lit (.bool true)], args := [d] }
  | _ => none }
def fnExactReadGrammarRow : OpenClaim := { program := "ytagabcddonmdgaa", sum := "08ee24f4a39df496162702db7990ad6fc57cdf8e9afdd82f1b7809a465e04b72", func := "loop.example/g00911/laws.FnExactReadGrammar", spec := "fnExactReadGrammar", inPlace := ["internal/bytealg.IndexByteString", "internal/abi.NoEscape", "internal/bytealg.MakeNoZero"], unfollowed := true, recurses := true, apart := false }
def FnExactReadGrammarSaid : Prop := fnExactReadGrammarRow.holds Try.pinned (OpenSpec.ofChange fnExactReadGrammarSpec)

/-- ITS FALSE NEIGHBOUR: 'it returns false'. Refute it at one input. -/
def fnExactReadGrammarWrong : ChangeSpec := { name := "fnExactReadGrammar", fn := fun _ => fun
  | [d] => { results := [.lit (.bool false)], args := [d] }
  | _ => none }
def FnExactReadGrammarWrongFalsely : Prop := fnExactReadGrammarRow.holds Try.pinned (OpenSpec.ofChange fnExactReadGrammarWrong)

/-- 'laws.FnExactReadLexicon': WHATEVER THE INPUT: true; the input reads as it did. -/
def fnExactReadLexiconSpec : ChangeSpec := { name := "fnExactReadLexicon", fn := fun _ => fun
  | [d] => { results := [.lit (.bool true)], args := [d] }
  | _ => none }
def fnExactReadLexiconRow : OpenClaim := { program := "ytagabcddonmdgaa", sum := "08ee24f4a39df496162702db7990ad6fc57cdf8e9afdd82f1b7809a465e04b72", func := "loop.example/g00911/laws.FnExactReadLexicon", spec := "fnExactReadLexicon", inPlace := ["internal/bytealg.IndexByteString", "internal/abi.NoEscape", "internal/bytealg.MakeNoZero"], unfollowed := true, recurses := true, apart := false }
def FnExactReadLexiconSaid : Prop := fnExactReadLexiconRow.holds Try.pinned (OpenSpec.ofChange fnExactReadLexiconSpec)

/-- ITS FALSE NEIGHBOUR: 'it returns false'. Refute it at one input. -/
def fnExactReadLexiconWrong : ChangeSpec := { name := "fnExactReadLexicon", fn := fun _ => fun
  | [d] => { results := [.lit (.bool false)], args := [d] }
  | _ => none }
def FnExactReadLexiconWrongFalsely : Prop := fnExactReadLexiconRow.holds Try.pinned (OpenSpec.ofChange fnExactReadLexiconWrong)

/-- 'laws.FnExactSameDawg': WHATEVER THE INPUT: true; the input reads as it did. -/
def fnExactSameDawgSpec : ChangeSpec := { name := "fnExactSameDawg", fn := fun _ => fun
  | [d1, d2] => { results := [.lit (.bool true)], args := [d1, d2] }
  | _ => none }
def fnExactSameDawgRow : OpenClaim := { program := "ytagabcddonmdgaa", sum := "08ee24f4a39df496162702db7990ad6fc57cdf8e9afdd82f1b7809a465e04b72", func := "loop.example/g00911/laws.FnExactSameDawg", spec := "fnExactSameDawg", unfollowed := true, recurses := true, apart := false }
def FnExactSameDawgSaid : Prop := fnExactSameDawgRow.holds Try.pinned (OpenSpec.ofChange fnExactSameDawgSpec)

/-- ITS FALSE NEIGHBOUR: 'it returns false'. Refute it at one input. -/
def fnExactSameDawgWrong : ChangeSpec := { name := "fnExactSameDawg", fn := fun _ => fun
  | [d1, d2] => { results := [.lit (.bool false)], args := [d1, d2] }
  | _ => none }
def FnExactSameDawgWrongFalsely : Prop := fnExactSameDawgRow.holds Try.pinned (OpenSpec.ofChange fnExactSameDawgWrong)

/- THE SECOND FORM. 'bulk': how many values and letters a reading holds, each counted each time it is reached (what is shared counts as often as it is met; a slice's spare places count too). A statement '..UptoSaid' is the law's where the arguments, and the package variables that the reading takes, are together of bulk at most 1048576: NARROWER than '..Said'. Prove '..Said' where nothing that the law and all that it calls make is longer than what came in: it says more and counts as full. Else prove '..UptoSaid'. A law counts once. -/
mutual
def uptoBulk {H : Type} : DataW H → Nat
  | .lit (.string bytes) => bytes.length + 1
  | .lit _ => 1
  | .nil => 1
  | .ptr d => uptoBulk d + 1
  | .slice elems spare => uptoBulkAll elems + uptoBulkAll spare + 1
  | .agg parts => uptoBulkAll parts + 1
  | .iface _ d => uptoBulk d + 1
  | .map entries => uptoBulkEntries entries + 1
  | .held _ => 1
def uptoBulkAll {H : Type} : List (DataW H) → Nat
  | [] => 0
  | d :: r => uptoBulk d + uptoBulkAll r
def uptoBulkEntries {H : Type} : List (Lit × DataW H) → Nat
  | [] => 0
  | x :: r => uptoBulkEntry x + uptoBulkEntries r
def uptoBulkEntry {H : Type} : Lit × DataW H → Nat
  | (.string bytes, d) => bytes.length + uptoBulk d + 1
  | (_, d) => uptoBulk d + 1
 end
def uptoSmall : (H : Type) → List (DataW H) → Bool := fun _ ds => decide (uptoBulkAll ds ≤ 1048576)
def OpenSpec.upto (s : _root_.Go.ChangeSpec) : _root_.Go.OpenSpec := { _root_.Go.OpenSpec.ofChange s with cond := some uptoSmall }

/-- 'laws.FnExactReadGrammar', WHERE WHAT IT READS IS OF BULK AT MOST 1048576: true; the input reads as it did. -/
def fnExactReadGrammarUptoRow : OpenClaim := { program := "ytagabcddonmdgaa", sum := "08ee24f4a39df496162702db7990ad6fc57cdf8e9afdd82f1b7809a465e04b72", func := "loop.example/g00911/laws.FnExactReadGrammar", spec := "fnExactReadGrammar", inPlace := ["internal/bytealg.IndexByteString", "internal/abi.NoEscape", "internal/bytealg.MakeNoZero"], unfollowed := true, recurses := true, apart := false, narrowed := true }
def FnExactReadGrammarUptoSaid : Prop := fnExactReadGrammarUptoRow.holds Try.pinned (OpenSpec.upto fnExactReadGrammarSpec)

/-- 'laws.FnExactReadLexicon', WHERE WHAT IT READS IS OF BULK AT MOST 1048576: true; the input reads as it did. -/
def fnExactReadLexiconUptoRow : OpenClaim := { program := "ytagabcddonmdgaa", sum := "08ee24f4a39df496162702db7990ad6fc57cdf8e9afdd82f1b7809a465e04b72", func := "loop.example/g00911/laws.FnExactReadLexicon", spec := "fnExactReadLexicon", inPlace := ["internal/bytealg.IndexByteString", "internal/abi.NoEscape", "internal/bytealg.MakeNoZero"], unfollowed := true, recurses := true, apart := false, narrowed := true }
def FnExactReadLexiconUptoSaid : Prop := fnExactReadLexiconUptoRow.holds Try.pinned (OpenSpec.upto fnExactReadLexiconSpec)

/-- 'laws.FnExactSameDawg', WHERE WHAT IT READS IS OF BULK AT MOST 1048576: true; the input reads as it did. -/
def fnExactSameDawgUptoRow : OpenClaim := { program := "ytagabcddonmdgaa", sum := "08ee24f4a39df496162702db7990ad6fc57cdf8e9afdd82f1b7809a465e04b72", func := "loop.example/g00911/laws.FnExactSameDawg", spec := "fnExactSameDawg", unfollowed := true, recurses := true, apart := false, narrowed := true }
def FnExactSameDawgUptoSaid : Prop := fnExactSameDawgUptoRow.holds Try.pinned (OpenSpec.upto fnExactSameDawgSpec)

end Rows
end Go.Proofs.Ytagabcddonmdgaa
